/-
  fed: the document's Not of a bound.
-/
import Derived.Test.YtnfkmpickmonoaaGreatQ16
import Derived.Test.YtnfkmpickmonoaaGreatQ26
namespace Go.Proofs.YtnfkmpickmonoaaGreat
open Go.RowKit
set_option linter.unusedVariables false
theorem rnot_any (b : Int) (w : World) (h0 : -2147483648 ≤ b) (h1 : b ≤ 2147483647) :
    Calls Tryz.prog 96 #[.int .i32 b] w fun e w' => e = .returned (.tuple #[.int .i32 (notB b), .int .i64 (notE b)]) ∧ w' = w := by
  cases f : finB b
  · have e1 : notB b = 0 := by simp [notB, f]
    rw [e1]
    cases r : rightB b
    · have e2 : notE b = 7 := by simp [notE, r]
      rw [e2]
      clear e1 e2
      go_enter Tryz.func96, Tryz.ntmps96
      go_wp2_with (first | (go_at_call 41; refine (rright_any _ _ h0 h1).mono ?_; rintro e w' ⟨rfl, rfl⟩) | (go_at_call 119; refine (rvalue_any _ _ h0 h1).mono ?_; rintro e w' ⟨rfl, rfl⟩))
      go_ret2
      exact ⟨rfl, rfl⟩
    · have e2 : notE b = 4 := by simp [notE, r, f]
      rw [e2]
      clear e1 e2
      go_enter Tryz.func96, Tryz.ntmps96
      go_wp2_with (first | (go_at_call 41; refine (rright_any _ _ h0 h1).mono ?_; rintro e w' ⟨rfl, rfl⟩) | (go_at_call 119; refine (rvalue_any _ _ h0 h1).mono ?_; rintro e w' ⟨rfl, rfl⟩))
      go_ret2
      exact ⟨rfl, rfl⟩
  · have r := right_of_fin f
    have l := (fin_iff b).1 f
    have l0 : -268435456 ≤ valV b := by simp [valV, f]; omega
    have l1 : valV b ≤ 268435456 := by simp [valV, f]; omega
    have e1 : notB b = ofB (-(valV b)) (!valR b) := by simp [notB, f]
    have e2 : notE b = ofE (-(valV b)) := by simp [notE, r, f]
    rw [e1, e2]
    clear e1 e2 l
    go_enter Tryz.func96, Tryz.ntmps96
    go_wp2_with (first | (go_at_call 41; refine (rright_any _ _ h0 h1).mono ?_; rintro e w' ⟨rfl, rfl⟩) | (go_at_call 119; refine (rvalue_any _ _ h0 h1).mono ?_; rintro e w' ⟨rfl, rfl⟩) | (go_at_call 126; refine (rof_any _ _ _).mono ?_; rintro e w' ⟨rfl, rfl⟩))
    go_ret2
    exact ⟨rfl, rfl⟩

theorem rnot_fin (v : Int) (w : World) (h0 : -536870912 ≤ v) (h1 : v ≤ 536870913) :
    Calls Tryz.prog 96 #[.int .i32 v] w fun e w' => e = .returned (.tuple #[.int .i32 (1 - v), .int .i64 (notE v)]) ∧ w' = w := by
  have h := rnot_any v w (by omega) (by omega)
  rw [notB_eq h0 h1] at h
  exact h
end Go.Proofs.YtnfkmpickmonoaaGreat

/-
  fed: what is left of a zone by the document: less.
-/
namespace Go.Proofs.YtnfkmpickmonoaaGreat
open Go.RowKit Go.Shelf
set_option linter.unusedVariables false
set_option maxRecDepth 100000
attribute [local go_sem] Oper.semAt_some
theorem less_un (n m : Nat) {c d : Row} (s0 : List Row) (c0 : ¬ c 0 < 1) (hM : metB n m c d = false) : layL (s0, 0) (leftY n m c d) = if s0.length = 4096 then (s0, 3) else (s0 ++ [c], 0) := by
  unfold leftY
  rw [hM]
  show layS (s0, 0) (some c, 0) = _
  simp [layS, c0]
theorem dr_one {H n m zb : Nat} {c : Row} {w W : World} (hm : 0 < m) (h6 : Below H w W) (hH : H ≤ W.heap.size) (hz : RZone W 0 zb n (listOf c m)) (zc : ZC n m c) (c0 : ¬ c 0 < 1) : DR H n m [c] (.slice (some ⟨W.heap.size, 0, none⟩) 1 1) w (W.alloc (.cells #[.pointer (some ⟨zb, 0, none⟩)] 44)) := by
  have b1 := below_one W (.cells #[.pointer (some ⟨zb, 0, none⟩)] 44)
  refine ⟨⟨[(zb, listOf c m)], ?_, fun h => by simp at h, rfl, fun e he => ?_⟩, fun x hx => ?_, h6.trans (b1.mono hH)⟩
  · exact ⟨rfl, .inr ⟨W.heap.size, 1, #[.pointer (some ⟨zb, 0, none⟩)], rfl, hH, by simp only [World.alloc, Array.getElem?_push_size], Nat.le_refl _, by decide, rfl, rfl⟩⟩
  · rw [List.mem_singleton.1 he]
    exact hz.past b1
  · rw [List.mem_singleton.1 hx]
    exact ⟨zc, c0⟩
theorem layL_le : ∀ (ys : List YS) (s : List Row × Int), s.1.length ≤ 4096 → (layL s ys).1.length ≤ 4096
  | [], s, h => h
  | y :: ys, s, h => by
    refine layL_le ys (layS s y) ?_
    unfold layS
    split
    · exact h
    · split
      · exact h
      · split
        · exact h
        · split
          · exact h
          · split
            · exact h
            · simp only [List.length_append, List.length_cons, List.length_nil]
              omega
theorem DL.le {n m K : Nat} {c d x : Row} {s0 cs : List Row} (h : DL n m c d s0 K x cs) (hs : s0.length ≤ 4096) : s0.length + cs.length ≤ 4096 := by
  obtain ⟨ys, -, h2⟩ := h
  have := layL_le ys (s0, 0) hs
  rw [h2] at this
  simpa using this
theorem right_not {x v : Int} (hx : rightB x = true) (hv : rightB v = true) (h : ¬ x ≤ v) : -536870912 ≤ v ∧ v ≤ 536870913 ∧ rightB (1 - v) = true := by
  unfold rightB at *
  have a := of_decide_eq_true hx
  have b := of_decide_eq_true hv
  refine ⟨by omega, by omega, decide_eq_true (.inr (by omega))⟩
set_option maxHeartbeats 4000000 in
theorem rless_un {w : World} {zb yb n m : Nat} {c d : Row} (s0 : List Row) (hn : n ≤ 8) (hm : m = (n + 1) * (n + 1)) (h1 : RZone w 0 zb n (listOf c m)) (h2 : RZone w 0 yb n (listOf d m)) (hc : ZC n m c) (hd : ZC n m d) (c0 : ¬ c 0 < 1) (hs : s0.length ≤ 4096) (hM : metB n m c d = false) :
    Calls Tryz.prog 71 #[.pointer (some ⟨zb, 0, none⟩), .pointer (some ⟨yb, 0, none⟩), .int .i64 ((4096 : Int) - (s0.length : Int))] w fun e w' => LessOut w.heap.size n m s0 (layL (s0, 0) (leftY n m c d)) e w w' ∧ Below w.heap.size w w' := by
  have mp := zlen7 hm
  have HE := hideD (rempty_zc h2 hm hd)
  have HMt := hideD (rmeets_zc h1 h2 hn hm hc hd)
  rw [hM] at HMt
  rw [less_un n m s0 c0 hM]
  by_cases e0 : d 0 < 1
  · rw [decide_eq_true e0] at HE
    clear hM
    by_cases cf : s0.length = 4096
    · rw [if_pos cf, cf]
      have HO : Hid (∀ W, LessOut w.heap.size n m s0 (s0, 3) (.returned (.tuple #[.slice none 0 0, .int .i64 3])) w W) := fun W => .inl ⟨by simp, rfl⟩
      clear hm h1 h2 hc hd c0 hs HMt
      go_enter Tryz.func71, Tryz.ntmps71
      go_wp2_with fail
      refine HE.out.mono ?_
      rintro e w1 ⟨rfl, e1⟩
      obtain rfl := e1.symm
      clear e1 HE
      go_wp2_with fail
      refine bodyPost_ret (v := .tuple #[.slice none 0 0, .int .i64 3]) (by simp [results, Tryz.results71, go_sem]) rfl ?_
      exact ⟨HO.out _, (Below.refl _ _)⟩
    · rw [if_neg cf]
      have HO : Hid (∀ W, Below w.heap.size w W → LessOut w.heap.size n m s0 (s0 ++ [c], 0) (.returned (.tuple #[.slice (some ⟨W.heap.size, 0, none⟩) 1 1, .int .i64 0])) w (W.alloc (.cells #[.pointer (some ⟨zb, 0, none⟩)] 44))) := fun W hb =>
        .inr ⟨rfl, [c], _, rfl, rfl, dr_one mp hb hb.size (h1.past hb) hc c0⟩
      have k0 : ¬ ((4096 : Int) - (s0.length : Int)) < 1 := by omega
      generalize ((4096 : Int) - (s0.length : Int)) = may at *
      clear hm h1 h2 hc hd c0 hs HMt
      go_enter Tryz.func71, Tryz.ntmps71
      go_wp2_with fail
      refine HE.out.mono ?_
      rintro e w1 ⟨rfl, e1⟩
      obtain rfl := e1.symm
      clear e1 HE
      go_wp2_with fail
      refine bodyPost_ret (v := .tuple #[.slice (some ⟨w.heap.size, 0, none⟩) 1 1, .int .i64 0]) (by simp [results, Tryz.results71, go_sem]) rfl ?_
      exact ⟨HO.out _ (Below.refl _ _), (Below.refl _ _).trans ((below_one w _).mono (Nat.le_refl _))⟩
  · rw [decide_eq_false e0] at HE
    clear hM
    by_cases cf : s0.length = 4096
    · rw [if_pos cf, cf]
      have HO : Hid (∀ W, LessOut w.heap.size n m s0 (s0, 3) (.returned (.tuple #[.slice none 0 0, .int .i64 3])) w W) := fun W => .inl ⟨by simp, rfl⟩
      clear hm h1 h2 hc hd c0 hs
      go_enter Tryz.func71, Tryz.ntmps71
      go_wp2_with fail
      refine HE.out.mono ?_
      rintro e w1 ⟨rfl, e1⟩
      obtain rfl := e1.symm
      clear e1 HE
      go_wp2_with fail
      refine HMt.out.mono ?_
      rintro e w1 ⟨rfl, hb1⟩
      have B1 := hideD hb1
      clear hb1 HMt
      go_wp2_with fail
      refine bodyPost_ret (v := .tuple #[.slice none 0 0, .int .i64 3]) (by simp [results, Tryz.results71, go_sem]) rfl ?_
      exact ⟨HO.out _, B1.out⟩
    · rw [if_neg cf]
      have HO : Hid (∀ W, Below w.heap.size w W → LessOut w.heap.size n m s0 (s0 ++ [c], 0) (.returned (.tuple #[.slice (some ⟨W.heap.size, 0, none⟩) 1 1, .int .i64 0])) w (W.alloc (.cells #[.pointer (some ⟨zb, 0, none⟩)] 44))) := fun W hb =>
        .inr ⟨rfl, [c], _, rfl, rfl, dr_one mp hb hb.size (h1.past hb) hc c0⟩
      have k0 : ¬ ((4096 : Int) - (s0.length : Int)) < 1 := by omega
      generalize ((4096 : Int) - (s0.length : Int)) = may at *
      clear hm h1 h2 hc hd c0 hs
      go_enter Tryz.func71, Tryz.ntmps71
      go_wp2_with fail
      refine HE.out.mono ?_
      rintro e w1 ⟨rfl, e1⟩
      obtain rfl := e1.symm
      clear e1 HE
      go_wp2_with fail
      refine HMt.out.mono ?_
      rintro e w1 ⟨rfl, hb1⟩
      have B1 := hideD hb1
      clear hb1 HMt
      go_wp2_with fail
      refine bodyPost_ret (v := .tuple #[.slice (some ⟨w1.heap.size, 0, none⟩) 1 1, .int .i64 0]) (by simp [results, Tryz.results71, go_sem]) rfl ?_
      exact ⟨HO.out _ B1.out, B1.out.trans ((below_one w1 _).mono B1.out.size)⟩

set_option maxHeartbeats 8000000 in
theorem rless_met {w : World} {zb yb n m : Nat} {c d : Row} (s0 : List Row) (hn : n ≤ 8) (hm : m = (n + 1) * (n + 1)) (h1 : RZone w 0 zb n (listOf c m)) (h2 : RZone w 0 yb n (listOf d m)) (hc : ZC n m c) (hd : ZC n m d) (c0 : ¬ c 0 < 1) (hs : s0.length ≤ 4096) (hM : metB n m c d = true) :
    Calls Tryz.prog 71 #[.pointer (some ⟨zb, 0, none⟩), .pointer (some ⟨yb, 0, none⟩), .int .i64 ((4096 : Int) - (s0.length : Int))] w fun e w' => LessOut w.heap.size n m s0 (layL (s0, 0) (leftY n m c d)) e w w' ∧ Below w.heap.size w w' := by
  have mp := zlen7 hm
  have d0 := met_full hn hm hc hd hM
  have HE := hideD (rempty_zc h2 hm hd)
  have HMt := hideD (rmeets_zc h1 h2 hn hm hc hd)
  rw [hM] at HMt
  rw [decide_eq_false d0] at HE
  obtain ⟨i0, hi, hz0, hz1, hz2⟩ := info_parts info_rzp
  have eT : layL (s0, 0) (leftY n m c d) = allT n m c d s0 := by
    unfold leftY allT
    rw [if_pos hM]
  rw [eT]
  have HD : Hid (∀ W, Below w.heap.size w W → Calls Tryz.prog 32 #[.pointer (some ⟨zb, 0, none⟩)] W fun e w' => e = .returned (.int .i64 n) ∧ w' = W) := fun W hb => rdim_any (h1.past hb)
  have L0 : Hid (DL n m c d s0 (0 * (n + 1)) c []) := by
    rw [Nat.zero_mul]
    exact ⟨[], rfl, by simp [layL]⟩
  have R0 : Hid (∀ W, Below w.heap.size w W → DR w.heap.size n m [] (.slice none 0 0) w W ∧ RZone W 0 zb n (listOf c m)) := fun W hb => ⟨⟨⟨[], World.ownsRow_nil _ _ _ _, fun _ => rfl, rfl, fun e he => (by cases he)⟩, fun c hc => (by cases hc), hb⟩, h1.past hb⟩
  have H2 := hideD h2
  have HC := hideD hc
  have HDZ := hideD hd
  have HM := hideD hm
  have HN := hideD hn
  have HS := hideD hs
  have HMP := hideD mp
  have D0 := hideD d0
  have nn : (n : Int) ≤ 8 := by omega
  obtain ⟨T, hT⟩ : ∃ T, allT n m c d s0 = T := ⟨_, rfl⟩
  have HT := hideD hT
  rw [hT]
  clear hT eT hM h1 h2 hc hd hm c0 mp d0 hs
  obtain ⟨may, hmay⟩ : ∃ x : Int, (4096 : Int) - (s0.length : Int) = x := ⟨_, rfl⟩
  have MAY := hideD hmay
  rw [hmay]
  clear hmay
  go_enter Tryz.func71, Tryz.ntmps71
  go_wp2_with fail
  refine HE.out.mono ?_
  rintro e w1 ⟨rfl, e1⟩
  obtain rfl := e1.symm
  clear e1 HE
  go_wp2_with fail
  refine HMt.out.mono ?_
  rintro e w1 ⟨rfl, hb1⟩
  have B1 := hideD hb1
  clear hb1 HMt
  go_wp2_with fail
  refine (HD.out _ B1.out).mono ?_
  rintro e w2 ⟨rfl, e2⟩
  obtain rfl := e2.symm
  clear e2 HD
  go_wp2_with fail
  go_loopw [0, 8, 10] (fun z v s wr => ∃ (I xb : Nat) (x : Row) (cs : List Row) (vv : Value), I ≤ n + 1 ∧ z = .pointer (some ⟨xb, 0, none⟩) ∧ v = vv ∧ s = .int .i64 (I : Int) ∧ Hid (DL n m c d s0 (I * (n + 1)) x cs) ∧ Hid (DR w.heap.size n m cs vv w wr) ∧ Hid (RZone wr 0 xb n (listOf x m) ∧ ZC n m x)) (fun _ _ s _ => n + 1 - (intOf s).toNat)
  case atStart => exact ⟨0, zb, c, [], _, by omega, rfl, rfl, rfl, L0, (R0.out _ B1.out).1, (R0.out _ B1.out).2, HC.out⟩
  case round =>
    obtain ⟨I, xb, x, cs, vv, hI, rfl, rfl, rfl, hL, hR, hX⟩ := hrel
    by_cases ci : I ≤ n
    · have k0 : (I : Int) ≤ (n : Int) := by omega
      obtain ⟨wo, hwo⟩ : ∃ wo, wo = wr := ⟨_, rfl⟩
      subst hwo
      clear L0 R0 B1
      go_wp2_with fail
      go_loopw [0, 8, 11] (fun z v s wr => ∃ (J xb : Nat) (x : Row) (cs : List Row) (vv : Value), J ≤ n + 1 ∧ z = .pointer (some ⟨xb, 0, none⟩) ∧ v = vv ∧ s = .int .i64 (J : Int) ∧ Hid (DL n m c d s0 (I * (n + 1) + J) x cs) ∧ Hid (DR w.heap.size n m cs vv w wr) ∧ Hid (RZone wr 0 xb n (listOf x m) ∧ ZC n m x)) (fun _ _ s _ => n + 1 - (intOf s).toNat)
      case atStart => exact ⟨0, xb, x, cs, _, by omega, rfl, rfl, rfl, hL, hR, hX⟩
      case round =>
        clear hL hR hX
        obtain ⟨J, xb, x, cs, vv, hJ, rfl, rfl, rfl, hL, hR, hX⟩ := hrel
        by_cases cj : J ≤ n
        · have k1 : (J : Int) ≤ (n : Int) := by omega
          have KM : Hid (I * (n + 1) + J < m) := by show _ < _; rw [HM.out]; exact pos_lt ci cj
          have KD : Hid ((I * (n + 1) + J) % (n + 1) * (n + 1) + (I * (n + 1) + J) / (n + 1) = J * (n + 1) + I) := by
            show _ = _
            have e1 : (I * (n + 1) + J) / (n + 1) = I := by
              rw [Nat.mul_comm, Nat.mul_add_div (by omega), Nat.div_eq_of_lt (by omega), Nat.add_zero]
            have e2 : (I * (n + 1) + J) % (n + 1) = J := by
              rw [Nat.mul_comm, Nat.mul_add_mod, Nat.mod_eq_of_lt (by omega)]
            rw [e1, e2]
          have ZX := hideD hX.out.2
          have HY := hideD (rcellz (H2.out.past hR.out.below) HN.out HM.out ci cj)
          obtain ⟨dk, hdk⟩ : ∃ q, d (I * (n + 1) + J) = q := ⟨_, rfl⟩
          obtain ⟨xk, hxk⟩ : ∃ q, x (I * (n + 1) + J) = q := ⟨_, rfl⟩
          have DK := hideD hdk
          have XK := hideD hxk
          rw [hdk] at HY
          clear hdk hxk
          go_wp2_with fail
          refine HY.out.mono ?_
          rintro e wa ⟨rfl, hba⟩
          have HX2 := hideD (rcellz (hX.out.1.past hba) HN.out HM.out ci cj)
          rw [XK.out] at HX2
          have BA := hideD hba
          clear hba HY
          go_wp2_with fail
          refine HX2.out.mono ?_
          rintro e wb ⟨rfl, hbb⟩
          have BY : Hid (Below wr.heap.size wr wb) := beyondD BA.out hbb
          clear hbb HX2 BA
          by_cases cd : I = J
          · subst cd
            have SK : Hid (x (I * (n + 1) + I) ≤ d (I * (n + 1) + I)) := zc_diag HM.out ZX.out HDZ.out (by have := D0.out; omega) ci
            have LN := hideD (hL.out.skip SK.out)
            have RN := hideD (hR.out.past BY.out hR.out.below.size)
            have XN := hideD (hX.out.1.past BY.out)
            clear SK
            go_wp2_with fail
            go_roundw
            case rel => exact ⟨I + 1, xb, x, cs, _, by omega, rfl, rfl, by go_num, LN, RN, XN.out, ZX.out⟩
            case measure => simp [intOf]; omega
          · have cn : ((I : Int) == (J : Int)) = false := by simp; omega
            by_cases ck : xk ≤ dk
            · have SK : Hid (x (I * (n + 1) + J) ≤ d (I * (n + 1) + J)) := by show _ ≤ _; rw [DK.out, XK.out]; exact ck
              have LN := hideD (hL.out.skip SK.out)
              have RN := hideD (hR.out.past BY.out hR.out.below.size)
              have XN := hideD (hX.out.1.past BY.out)
              clear SK
              go_wp2_with fail
              go_roundw
              case rel => exact ⟨J + 1, xb, x, cs, _, by omega, rfl, rfl, by go_num, LN, RN, XN.out, ZX.out⟩
              case measure => simp [intOf]; omega
            · have NK : Hid (d (I * (n + 1) + J) < x (I * (n + 1) + J)) := by show _ < _; rw [DK.out, XK.out]; omega
              obtain ⟨q0, q1, q2⟩ := right_not (zc_right HM.out ZX.out _) (zc_right HM.out HDZ.out _) (Int.not_le.2 NK.out)
              rw [DK.out] at q0 q1 q2
              have Q2 := hideD q2
              have R1 := hideD (hR.out.past BY.out hR.out.below.size)
              have X1 := hideD (hX.out.1.past BY.out)
              clear hR hX q2 BY
              obtain ⟨wc, hwc⟩ : ∃ wc, wc = wb := ⟨_, rfl⟩
              subst hwc
              go_wp2_with fail
              refine (rnot_fin dk _ q0 q1).mono ?_
              rintro e wd ⟨rfl, e3⟩
              obtain rfl := e3.symm
              clear e3
              have S1 := hideD (rwith_any (i := J) (j := I) (v := 1 - dk) X1.out HN.out HM.out (zc_right HM.out ZX.out) cj ci Q2.out)
              go_wp2_with fail
              refine S1.out.mono ?_
              rintro e we ⟨⟨B', hz⟩, hbe⟩
              have R2 := hideD (R1.out.past hbe R1.out.below.size)
              have X2 := hideD (X1.out.past hbe)
              clear S1 hbe R1 X1
              cases hc1 : conZ n m x (J * (n + 1) + I) (1 - dk) with
              | none =>
                have e10 := hL.out.err (Int.not_le.2 NK.out) (by rw [DK.out, KD.out]; exact hc1) KM.out
                rw [HT.out] at e10
                have HO : Hid (LessOut w.heap.size n m s0 T (.returned (.tuple #[.slice none 0 0, .int .i64 10])) w we) := .inl ⟨by rw [e10]; decide, by rw [e10]⟩
                rw [hc1] at hz
                obtain rfl := hz
                clear hc1 e10
                go_wp2_with fail
                refine bodyPost_ret (v := .tuple #[.slice none 0 0, .int .i64 10]) (by simp [results, Tryz.results71, go_sem]) rfl ?_
                exact ⟨HO.out, R2.out.below⟩
              | some o =>
                have ZO : Hid (ZC n m o) := conZ_zc HN.out HM.out ZX.out Q2.out hc1
                rw [hc1] at hz
                obtain ⟨pb, rfl, hz⟩ := hz
                have RO := hideD hz.weak7
                have C1 : Hid (conZ n m x ((I * (n + 1) + J) % (n + 1) * (n + 1) + (I * (n + 1) + J) / (n + 1)) (1 - d (I * (n + 1) + J)) = some o) := by show _ = _; rw [DK.out, KD.out]; exact hc1
                clear hz hc1
                go_wp2_with fail
                refine (rempty_zc RO.out HM.out ZO.out).mono ?_
                rintro e wf ⟨rfl, e4⟩
                obtain rfl := e4.symm
                clear e4
                by_cases o0 : o 0 < 1
                · have MM := hideD (hL.out.empty (Int.not_le.2 NK.out) C1.out o0)
                  have od : decide (o 0 < 1) = true := decide_eq_true o0
                  clear C1 o0
                  have S2 := hideD (rwith_any (i := I) (j := J) (v := d (I * (n + 1) + J)) X2.out HN.out HM.out (zc_right HM.out ZX.out) (by omega) (by omega) (zc_right HM.out HDZ.out _))
                  rw [DK.out] at S2
                  go_wp2_with fail
                  refine S2.out.mono ?_
                  rintro e wS ⟨⟨B', hz⟩, hbS⟩
                  have RS := hideD ((R2.out).past hbS (R2.out.below).size)
                  clear S2
                  cases hx2 : conZ n m x (I * (n + 1) + J) dk with
                  | none =>
                    have e10 := (MM.out).err (by rw [DK.out]; exact hx2) KM.out
                    rw [HT.out] at e10
                    have HO : Hid (LessOut w.heap.size n m s0 T (.returned (.tuple #[.slice none 0 0, .int .i64 10])) w wS) := .inl ⟨by rw [e10]; decide, by rw [e10]⟩
                    rw [hx2] at hz
                    obtain rfl := hz
                    clear hx2 hbS e10
                    go_wp2_with fail
                    refine bodyPost_ret (v := .tuple #[.slice none 0 0, .int .i64 10]) (by simp [results, Tryz.results71, go_sem]) rfl ?_
                    exact ⟨HO.out, RS.out.below⟩
                  | some x2 =>
                    have LN := hideD ((MM.out).next (by rw [DK.out]; exact hx2))
                    have ZN : Hid (ZC n m x2) := conZ_zc HN.out HM.out ZX.out (by rw [← DK.out]; exact zc_right HM.out HDZ.out _) hx2
                    rw [hx2] at hz
                    obtain ⟨b2, rfl, hz⟩ := hz
                    have RN := hideD hz.weak7
                    clear hz hbS hx2
                    go_wp2_with fail
                    go_roundw
                    case rel => exact ⟨J + 1, b2, x2, _, _, by omega, rfl, rfl, by go_num, LN, RS, RN.out, ZN.out⟩
                    case measure => simp [intOf]; omega
                · have od : decide (o 0 < 1) = false := decide_eq_false o0
                  obtain ⟨⟨rs, hown, h0, hmap, hzs⟩, hok, hbl⟩ := R2.out
                  obtain ⟨ad, cap, rfl⟩ := own_slR hown
                  have hlen := rs_len hmap
                  by_cases cf : s0.length + cs.length = 4096
                  · have e3 := hL.out.full (Int.not_le.2 NK.out) C1.out o0 cf KM.out
                    rw [HT.out] at e3
                    have HO : Hid (LessOut w.heap.size n m s0 T (.returned (.tuple #[.slice none 0 0, .int .i64 3])) w we) := .inl ⟨by rw [e3]; decide, by rw [e3]⟩
                    have ey : ((rs.length : Int) == may) = true := by
                      have := MAY.out
                      simp; omega
                    clear e3 C1 hown h0 hmap hzs hok hbl cf
                    go_wp2_with fail
                    refine bodyPost_ret (v := .tuple #[.slice none 0 0, .int .i64 3]) (by simp [results, Tryz.results71, go_sem]) rfl ?_
                    exact ⟨HO.out, R2.out.below⟩
                  · have MM := hideD (hL.out.more (Int.not_le.2 NK.out) C1.out o0 cf)
                    have ey : ((rs.length : Int) == may) = false := by
                      have := MAY.out
                      simp; omega
                    have bA := below_one we (.cells #[.pointer (some ⟨pb, 0, none⟩)] 44)
                    have OW := hideD (own_past hown bA)
                    have q4 : rs.length ≤ 4096 := by have := hL.out.le HS.out; omega
                    have hbs := hbl.size
                    have DN : Hid (∀ (v' : Value) (W : World), W.ownsRow w.heap.size 44 1 v' (rs.length + 1) (rs.map pvR7 ++ [.pointer (some ⟨pb, 0, none⟩)]) → (we.alloc (.cells #[.pointer (some ⟨pb, 0, none⟩)] 44)).grownBy W (Value.slice ad rs.length cap).ownBlock → DR w.heap.size n m (cs ++ [o]) v' w W ∧ RZone W 0 xb n (listOf x m) ∧ Below w.heap.size w W) := fun v' W h k => by
                      obtain ⟨a1, a2, a3⟩ := DR.more HMP.out hown h0 hmap hzs hok hbl hbl.size RO.out ZO.out o0 bA h k
                      exact ⟨a1, a2 _ _ _ (by rw [listOf_len]; exact HMP.out) X2.out, a3⟩
                    clear C1 hown h0 hmap hzs hok hbl bA o0 hlen
                    generalize rs.length = q at *
                    go_wp2_with (at_builtin; refine wpList_append_own _ rfl _ _ 31 rfl w.heap.size 44 i0 (.pointer none) 1 8 Tryz.underlying31 hi hz0 hz1 hz2 rfl (by decide) _ q (rs.map pvR7) rfl OW.out ⟨we.heap.size, 0, none⟩ 1 1 [.pointer (some ⟨pb, 0, none⟩)] rfl rfl (fun j u hu => by cases j with | zero => simp at hu; subst hu; simp [Addr.add, go_sem] | succ j => simp at hu) (fun u hu => by simp at hu; subst hu; rfl) (by unfold maxLen; omega) (by omega) (by simp; omega) ?_; intro v' wg hown2 hgr hnil; have DG := hideD (DN.out v' wg hown2 hgr); clear hown2 hgr hnil)
                    go_wp2_with fail
                    have S2 := hideD (rwith_any (i := I) (j := J) (v := d (I * (n + 1) + J)) DG.out.2.1 HN.out HM.out (zc_right HM.out ZX.out) (by omega) (by omega) (zc_right HM.out HDZ.out _))
                    rw [DK.out] at S2
                    refine S2.out.mono ?_
                    rintro e wS ⟨⟨B', hz⟩, hbS⟩
                    have RS := hideD ((DG.out.1).past hbS (DG.out.2.2).size)
                    clear S2
                    cases hx2 : conZ n m x (I * (n + 1) + J) dk with
                    | none =>
                      have e10 := (MM.out).err (by rw [DK.out]; exact hx2) KM.out
                      rw [HT.out] at e10
                      have HO : Hid (LessOut w.heap.size n m s0 T (.returned (.tuple #[.slice none 0 0, .int .i64 10])) w wS) := .inl ⟨by rw [e10]; decide, by rw [e10]⟩
                      rw [hx2] at hz
                      obtain rfl := hz
                      clear hx2 hbS e10
                      go_wp2_with fail
                      refine bodyPost_ret (v := .tuple #[.slice none 0 0, .int .i64 10]) (by simp [results, Tryz.results71, go_sem]) rfl ?_
                      exact ⟨HO.out, RS.out.below⟩
                    | some x2 =>
                      have LN := hideD ((MM.out).next (by rw [DK.out]; exact hx2))
                      have ZN : Hid (ZC n m x2) := conZ_zc HN.out HM.out ZX.out (by rw [← DK.out]; exact zc_right HM.out HDZ.out _) hx2
                      rw [hx2] at hz
                      obtain ⟨b2, rfl, hz⟩ := hz
                      have RN := hideD hz.weak7
                      clear hz hbS hx2
                      go_wp2_with fail
                      go_roundw
                      case rel => exact ⟨J + 1, b2, x2, _, _, by omega, rfl, rfl, by go_num, LN, RS, RN.out, ZN.out⟩
                      case measure => simp [intOf]; omega
        · have k1 : ¬ (J : Int) ≤ (n : Int) := by omega
          have LN : Hid (DL n m c d s0 ((I + 1) * (n + 1)) x cs) := by
            have h := hL.out
            rw [show J = n + 1 by omega, ← Nat.succ_mul] at h
            exact h
          clear hL
          go_wp2_with fail
          go_roundw
          case rel => exact ⟨I + 1, xb, x, cs, _, by omega, rfl, rfl, by go_num, LN, hR, hX⟩
          case measure => simp [intOf]; omega
    · have k0 : ¬ (I : Int) ≤ (n : Int) := by omega
      obtain ⟨⟨rs, hown, -⟩, -⟩ := hR.out
      obtain ⟨ad, cap, rfl⟩ := own_slR hown
      have HO : Hid (LessOut w.heap.size n m s0 T (.returned (.tuple #[.slice ad rs.length cap, .int .i64 0])) w wr) := by
        have h := hL.out
        rw [show I = n + 1 by omega, ← HM.out] at h
        have e := h.done
        rw [HT.out] at e
        exact .inr ⟨by rw [e], cs, _, by rw [e], rfl, hR.out⟩
      have BE := hideD hR.out.below
      clear hL hR hX hown
      go_wp2_with fail
      refine bodyPost_ret (v := .tuple #[.slice ad rs.length cap, .int .i64 0]) (by simp [results, Tryz.results71, go_sem]) rfl ?_
      exact ⟨HO.out, BE.out⟩
theorem rless_any {w : World} {zb yb n m : Nat} {c d : Row} (s0 : List Row) (hn : n ≤ 8) (hm : m = (n + 1) * (n + 1)) (h1 : RZone w 0 zb n (listOf c m)) (h2 : RZone w 0 yb n (listOf d m)) (hc : ZC n m c) (hd : ZC n m d) (c0 : ¬ c 0 < 1) (hs : s0.length ≤ 4096) :
    Calls Tryz.prog 71 #[.pointer (some ⟨zb, 0, none⟩), .pointer (some ⟨yb, 0, none⟩), .int .i64 ((4096 : Int) - (s0.length : Int))] w fun e w' => LessOut w.heap.size n m s0 (layL (s0, 0) (leftY n m c d)) e w w' ∧ Below w.heap.size w w' := by
  cases hM : metB n m c d with
  | true => exact rless_met s0 hn hm h1 h2 hc hd c0 hs hM
  | false => exact rless_un s0 hn hm h1 h2 hc hd c0 hs hM
end Go.Proofs.YtnfkmpickmonoaaGreat
