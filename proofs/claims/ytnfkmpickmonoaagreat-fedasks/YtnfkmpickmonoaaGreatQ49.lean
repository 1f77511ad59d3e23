/-
  fed: the document's In.
-/
import Derived.Test.YtnfkmpickmonoaaGreatQ48
import Derived.Test.YtnfkmpickmonoaaGreatQ26
namespace Go.Proofs.YtnfkmpickmonoaaGreat
open Go.RowKit Go.Shelf
set_option linter.unusedVariables false
set_option maxRecDepth 100000
attribute [local go_sem] Oper.semAt_some
theorem rkeeps_right (an ad bn bd b : Int) (w : World) (ia : I64 an) (ja : I64 ad) (ib : I64 bn) (jb : I64 bd) (ha : okR an ad = true) (hb : okR bn bd = true) (hr : rightB b = true) :
    Calls Tryz.prog 93 #[rv an ad, rv bn bd, .int .i32 b] w fun e w' => e = .returned (.bool (keepB b an ad bn bd)) ∧ Below w.heap.size w w' := by
  cases hf : finB b with
  | true => exact rkeeps_any an ad bn bd b w ia ja ib jb ha hb hf
  | false =>
    have e : b = 2147483647 := by
      unfold rightB at hr
      have h := of_decide_eq_true hr
      rcases h with h | h
      · exact h
      · have := (fin_iff b).2 h
        rw [this] at hf
        cases hf
    subst e
    have ek : keepB 2147483647 an ad bn bd = true := by unfold keepB; rw [hf]; rfl
    rw [ek]
    clear ek hf ha hb hr ia ja ib jb
    go_enter Tryz.func93, Tryz.ntmps93
    go_wp2_with fail
    refine (rvalue_inf _).mono ?_
    rintro e w1 ⟨rfl, e1⟩
    obtain rfl := e1.symm
    clear e1
    go_wp2_with fail
    go_ret
    exact ⟨rfl, two _ _ _⟩
theorem fit_split {n : Nat} {L : Rats} (h : fitB L n = true) : rightL L = true ∧ L.q = n := by
  unfold fitB at h
  rw [Bool.and_eq_true] at h
  exact ⟨h.1, by simpa using h.2⟩
def upK (n : Nat) (c : Row) (L : Rats) (K : Nat) : Bool := (List.range K).all (keepAt n c L)
theorem upK_next (n : Nat) (c : Row) (L : Rats) (K : Nat) : upK n c L (K + 1) = (upK n c L K && keepAt n c L K) := by
  unfold upK
  rw [List.range_succ, List.all_append]
  simp
theorem upK_false {n : Nat} {c : Row} {L : Rats} {K m : Nat} (h : K ≤ m) (hk : upK n c L K = false) : upK n c L m = false := by
  induction m with
  | zero => obtain rfl : K = 0 := by omega
            exact hk
  | succ m ih =>
    by_cases e : K = m + 1
    · subst e; exact hk
    · rw [upK_next, ih (by omega), Bool.false_and]
/-- A limit in memory that can be written. -/
def LX (b : Nat) (W : World) : Prop := ∃ x y v, W.cell? ⟨b, 0, none⟩ = some (.int .i64 x) ∧ W.cell? ⟨b, 1, none⟩ = some (.int .i64 y) ∧ W.cell? ⟨b, 2, none⟩ = some (.int .i32 v) ∧ W.frozen? ⟨b, 0, none⟩ = false ∧ W.frozen? ⟨b, 1, none⟩ = false ∧ W.frozen? ⟨b, 2, none⟩ = false
theorem LX.past {b : Nat} {A B : World} (h : LX b A) (hb : Below A.heap.size A B) : LX b B := by
  obtain ⟨x, y, v, h0, h1, h2, f0, f1, f2⟩ := h
  exact ⟨x, y, v, kc _ _ hb h0, kc _ _ hb h1, kc _ _ hb h2, kf _ _ hb h0 f0, kf _ _ hb h1 f1, kf _ _ hb h2 f2⟩
theorem below_set3 {w W : World} (h : Below w.heap.size w W) (x y v : Value) : Below w.heap.size w (((W.setCell ⟨w.heap.size, 0, none⟩ x).setCell ⟨w.heap.size, 1, none⟩ y).setCell ⟨w.heap.size, 2, none⟩ v) :=
  ((h.setCell (p := ⟨w.heap.size, 0, none⟩) (Nat.le_refl _) _).setCell (p := ⟨w.heap.size, 1, none⟩) (Nat.le_refl _) _).setCell (p := ⟨w.heap.size, 2, none⟩) (Nat.le_refl _) _
set_option maxHeartbeats 8000000 in
theorem rbreaks_any {w : World} {zb n m q cap : Nat} {ad : Option Addr} {c : Row} {L : Rats} (hn : n ≤ 8) (hm : m = (n + 1) * (n + 1)) (hz : RZone w 0 zb n (listOf c m)) (hr : ∀ k, rightB (c k) = true) (hq : L.q = q) (hV : RatV w ad L) (hI : RatI L) (hf : fitB L n = true) :
    Calls Tryz.prog 70 #[.pointer (some ⟨zb, 0, none⟩), .slice ad q cap] w fun e w' => (∃ x y b, e = .returned (.tuple #[.agg #[.int .i64 x, .int .i64 y, .int .i32 b], .bool (!allK n c L m)])) ∧ Below w.heap.size w w' := by
  obtain ⟨f1, f2⟩ := fit_split hf
  have qn : q = n := by omega
  subst qn
  have HRT := hideD (fun W (h : Below w.heap.size w W) => rright6_any ad cap q L W hq (by omega) (hV.later h) hI)
  rw [f1] at HRT
  have HD : Hid (∀ W, Below w.heap.size w W → Calls Tryz.prog 32 #[.pointer (some ⟨zb, 0, none⟩)] W fun e w' => e = .returned (.int .i64 q) ∧ w' = W) := fun W hb => rdim_any (hz.past hb)
  have HC : Hid (∀ W I J, Below w.heap.size w W → I ≤ q → J ≤ q → Calls Tryz.prog 92 #[.pointer (some ⟨zb, 0, none⟩), .int .i64 (I : Int), .int .i64 (J : Int)] W fun e w' => e = .returned (.tuple #[.int .i32 (c (I * (q + 1) + J)), .int .i64 0]) ∧ Below W.heap.size W w') := fun W I J hb hi hj => rcellz (hz.past hb) hn hm hi hj
  have HK : Hid (∀ W I, Below w.heap.size w W → I ≤ q → Calls Tryz.prog 94 #[.slice ad q cap, .int .i64 (I : Int)] W fun e w' => e = .returned (rv ((aheadL L).n I) ((aheadL L).d I)) ∧ Below W.heap.size W w') := fun W I hb hi => rclock_any ad q cap L I W hq hn (hV.later hb) hi
  have HP : Hid (∀ W I J, I ≤ q → J ≤ q → Calls Tryz.prog 93 #[rv ((aheadL L).n I) ((aheadL L).d I), rv ((aheadL L).n J) ((aheadL L).d J), .int .i32 (c (I * (q + 1) + J))] W fun e w' => e = .returned (.bool (keepAt q c L (I * (q + 1) + J))) ∧ Below W.heap.size W w') := fun W I J hi hj => by
    have e1 : (I * (q + 1) + J) / (q + 1) = I := by
      rw [Nat.mul_comm, Nat.mul_add_div (by omega), Nat.div_eq_of_lt (by omega), Nat.add_zero]
    have e2 : (I * (q + 1) + J) % (q + 1) = J := by
      rw [Nat.mul_comm, Nat.mul_add_mod, Nat.mod_eq_of_lt (by omega)]
    unfold keepAt
    rw [e1, e2]
    obtain ⟨a1, a2, a3⟩ := ahead_ok f1 hI I (by omega)
    obtain ⟨b1, b2, b3⟩ := ahead_ok f1 hI J (by omega)
    exact rkeeps_right _ _ _ _ _ W a1 a2 b1 b2 a3 b3 (hr _)
  have HM := hideD hm
  have B0 := hideD (below_one w (.cells #[.int .i64 0, .int .i64 0, .int .i32 0] 90))
  have lt0 : w.heap.size < (w.alloc (.cells #[.int .i64 0, .int .i64 0, .int .i32 0] 90)).heap.size := by simp
  have AF : Hid (allK q c L m = upK q c L m) := rfl
  clear hz hr hq hV hI hf f1 f2 hm
  have nn : (q : Int) ≤ 8 := by omega
  have eqq : ((q : Int) != (q : Int)) = false := by simp
  go_enter Tryz.func70, Tryz.ntmps70
  go_wp2_with fail
  refine (HRT.out _ B0.out).mono ?_
  rintro e w1 ⟨rfl, hb⟩
  have B1 := hideD (beyondD B0.out hb)
  have L1 : Hid (LX w.heap.size w1) := by
    have h : LX w.heap.size (w.alloc (.cells #[.int .i64 0, .int .i64 0, .int .i32 0] 90)) := ⟨0, 0, 0, by simp [go_sem], by simp [go_sem], by simp [go_sem], by simp [go_sem], by simp [go_sem], by simp [go_sem]⟩
    exact h.past hb
  clear hb HRT
  go_wp2_with fail
  refine (HD.out _ B1.out).mono ?_
  rintro e w2 ⟨rfl, e2⟩
  obtain rfl := e2.symm
  clear e2
  go_wp2_with fail
  go_loopw [6] (fun i wr => ∃ (I : Nat), I ≤ q + 1 ∧ i = .int .i64 (I : Int) ∧ Hid (upK q c L (I * (q + 1)) = true) ∧ Hid (Below w.heap.size w wr) ∧ Hid (LX w.heap.size wr)) (fun i _ => q + 1 - (intOf i).toNat)
  case atStart => exact ⟨0, by omega, rfl, by rw [Nat.zero_mul]; rfl, B1, L1⟩
  case round =>
    clear B1 L1
    obtain ⟨I, hI, rfl, HU, HB, HL⟩ := hrel
    go_wp2_with fail
    refine (HD.out _ HB.out).mono ?_
    rintro e w2 ⟨rfl, e2⟩
    obtain rfl := e2.symm
    clear e2
    by_cases ci : I ≤ q
    · have k0 : (I : Int) ≤ (q : Int) := by omega
      obtain ⟨wo, hwo⟩ : ∃ wo, wo = wr := ⟨_, rfl⟩
      subst hwo
      go_wp2_with fail
      go_loopw [7] (fun s wr => ∃ (J : Nat), J ≤ q + 1 ∧ s = .int .i64 (J : Int) ∧ Hid (upK q c L (I * (q + 1) + J) = true) ∧ Hid (Below w.heap.size w wr) ∧ Hid (LX w.heap.size wr)) (fun s _ => q + 1 - (intOf s).toNat)
      case atStart => exact ⟨0, by omega, rfl, HU, HB, HL⟩
      case round =>
        clear HU HB HL
        obtain ⟨J, hJ, rfl, HU, HB, HL⟩ := hrel
        go_wp2_with fail
        refine (HD.out _ HB.out).mono ?_
        rintro e w2 ⟨rfl, e2⟩
        obtain rfl := e2.symm
        clear e2
        by_cases cj : J ≤ q
        · have k1 : (J : Int) ≤ (q : Int) := by omega
          have HC1 := hideD (HC.out wr I J HB.out ci cj)
          have KM : Hid (I * (q + 1) + J + 1 ≤ m) := by show _ ≤ _; rw [HM.out]; exact pos_lt ci cj
          have HUN := hideD (upK_next q c L (I * (q + 1) + J))
          have HPK := hideD (fun W => HP.out W I J ci cj)
          have KE : Hid (I * (q + 1) + (J + 1) = I * (q + 1) + J + 1) := rfl
          generalize I * (q + 1) + J = K at *
          generalize c K = b at *
          go_wp2_with fail
          refine HC1.out.mono ?_
          rintro e wa ⟨rfl, hb⟩
          have HB := hideD (beyondD HB.out hb)
          have HL := hideD (HL.out.past hb)
          have HK1 := hideD (HK.out wa I HB.out ci)
          generalize (aheadL L).n I = xn at *
          generalize (aheadL L).d I = xd at *
          clear hb HC1
          go_wp2_with fail
          refine HK1.out.mono ?_
          rintro e wb ⟨rfl, hb⟩
          have HB := hideD (beyondD HB.out hb)
          have HL := hideD (HL.out.past hb)
          have HK2 := hideD (HK.out wb J HB.out cj)
          generalize (aheadL L).n J = yn at *
          generalize (aheadL L).d J = yd at *
          clear hb HK1
          go_wp2_with fail
          refine HK2.out.mono ?_
          rintro e wc ⟨rfl, hb⟩
          have HB := hideD (beyondD HB.out hb)
          have HL := hideD (HL.out.past hb)
          clear hb HK2
          go_wp2_with fail
          refine (HPK.out wc).mono ?_
          rintro e wd ⟨rfl, hb⟩
          have HB := hideD (beyondD HB.out hb)
          have HL := hideD (HL.out.past hb)
          clear hb HPK
          cases kv : keepAt q c L K with
          | true =>
            have HU2 : Hid (upK q c L (K + 1) = true) := by show _ = _; rw [HUN.out, HU.out, kv]; rfl
            clear HUN kv
            go_wp2_with fail
            go_roundw
            case rel => exact ⟨J + 1, by omega, by go_num, by rw [KE.out]; exact HU2.out, HB.out, HL.out⟩
            case measure => simp [intOf]; omega
          | false =>
            have HF : Hid (allK q c L m = false) := by
              show _ = _
              rw [AF.out]
              exact upK_false KM.out (by rw [HUN.out, kv, Bool.and_false])
            obtain ⟨x, y, v, h0, h1, h2, g0, g1, g2⟩ := HL.out
            have BE := hideD (below_set3 HB.out (.int .i64 I) (.int .i64 J) (.int .i32 b))
            clear HUN kv HU HB HL
            go_wp2_with fail
            refine bodyPost_ret (v := .tuple #[.agg #[.int .i64 I, .int .i64 J, .int .i32 b], .bool true]) (by simp [results, Tryz.results70, go_sem, *]) rfl ?_
            exact ⟨⟨_, _, _, by rw [HF.out]; rfl⟩, BE.out⟩
        · have k1 : ¬ (J : Int) ≤ (q : Int) := by omega
          have HU2 : Hid (upK q c L ((I + 1) * (q + 1)) = true) := by
            have h := HU.out
            rw [show J = q + 1 by omega, ← Nat.succ_mul] at h
            exact h
          clear HU
          go_wp2_with fail
          go_roundw
          case rel => exact ⟨I + 1, by omega, by go_num, HU2, HB, HL⟩
          case measure => simp [intOf]; omega
    · have k0 : ¬ (I : Int) ≤ (q : Int) := by omega
      have HT : Hid (allK q c L m = true) := by
        have h := HU.out
        rw [show I = q + 1 by omega, ← HM.out] at h
        exact h
      obtain ⟨x, y, v, h0, h1, h2, g0, g1, g2⟩ := HL.out
      have BE := hideD (below_set3 HB.out (.int .i64 0) (.int .i64 0) (.int .i32 0))
      clear HU HB HL
      go_wp2_with fail
      refine bodyPost_ret (v := .tuple #[.agg #[.int .i64 0, .int .i64 0, .int .i32 0], .bool false]) (by simp [results, Tryz.results70, go_sem, *]) rfl ?_
      exact ⟨⟨_, _, _, by rw [HT.out]; rfl⟩, BE.out⟩
theorem rin_any {w : World} {zb n m q cap : Nat} {ad : Option Addr} {c : Row} {L : Rats} (hn : n ≤ 8) (hm : m = (n + 1) * (n + 1)) (hz : RZone w 0 zb n (listOf c m)) (zc : ZC n m c) (c0 : ¬ c 0 < 1) (hq : L.q = q) (q1 : q ≤ 9223372036854775807) (hV : RatV w ad L) (hI : RatI L) :
    Calls Tryz.prog 46 #[.pointer (some ⟨zb, 0, none⟩), .slice ad q cap] w fun e w' => e = .returned (.bool (inB n m c L)) ∧ Below w.heap.size w w' := by
  have HE := hideD (rempty_zc hz hm zc)
  rw [decide_eq_false c0] at HE
  have HRT := hideD (rright6_any ad cap q L w hq q1 hV hI)
  have HD : Hid (∀ W, Below w.heap.size w W → Calls Tryz.prog 32 #[.pointer (some ⟨zb, 0, none⟩)] W fun e w' => e = .returned (.int .i64 n) ∧ w' = W) := fun W hb => rdim_any (hz.past hb)
  have HB : Hid (fitB L n = true → ∀ W, Below w.heap.size w W → Calls Tryz.prog 70 #[.pointer (some ⟨zb, 0, none⟩), .slice ad q cap] W fun e w' => (∃ x y b, e = .returned (.tuple #[.agg #[.int .i64 x, .int .i64 y, .int .i32 b], .bool (!allK n c L m)])) ∧ Below W.heap.size W w') := fun hf W hb => rbreaks_any hn hm (hz.past hb) (zc_right hm zc) hq (hV.later hb) hI hf
  have IN : Hid (inB n m c L = (rightL L && ((q == n) && allK n c L m))) := by
    show _ = _
    unfold inB fitB
    rw [hq, Bool.and_assoc]
  have FI : Hid (rightL L = true → q = n → fitB L n = true) := fun h1 h2 => by
    unfold fitB
    rw [h1, hq]
    simp [h2]
  clear hn hm hz zc c0 hq hV hI
  generalize inB n m c L = R at *
  generalize allK n c L m = A at *
  cases hr : rightL L with
  | false =>
    rw [hr] at HRT IN
    have RF : Hid (R = false) := IN.out
    clear HB FI IN
    go_enter Tryz.func46, Tryz.ntmps46
    go_wp2_with fail
    refine HE.out.mono ?_
    rintro e w1 ⟨rfl, e1⟩
    obtain rfl := e1.symm
    go_wp2_with fail
    refine HRT.out.mono ?_
    rintro e w2 ⟨rfl, hb⟩
    have B2 := hideD hb
    clear hb
    go_wp2_with fail
    go_ret
    exact ⟨by rw [RF.out]; rfl, B2.out⟩
  | true =>
    rw [hr] at HRT IN
    by_cases qn : q = n
    · have HB2 := hideD (HB.out (FI.out hr qn))
      have RA : Hid (R = A) := by show _ = _; rw [IN.out]; simp [qn]
      subst qn
      have qe : ((q : Int) != (q : Int)) = false := by simp
      clear HB FI IN
      go_enter Tryz.func46, Tryz.ntmps46
      go_wp2_with fail
      refine HE.out.mono ?_
      rintro e w1 ⟨rfl, e1⟩
      obtain rfl := e1.symm
      go_wp2_with fail
      refine HRT.out.mono ?_
      rintro e w2 ⟨rfl, hb⟩
      have B2 := hideD hb
      clear hb
      go_wp2_with fail
      refine (HD.out _ B2.out).mono ?_
      rintro e w3 ⟨rfl, e3⟩
      obtain rfl := e3.symm
      clear e3
      go_wp2_with fail
      refine (HB2.out _ B2.out).mono ?_
      rintro e w4 ⟨⟨x, y, b, rfl⟩, hb⟩
      have B4 := hideD (beyondD B2.out hb)
      clear hb HB2
      obtain rfl := RA.out
      have lt4 := B4.out.size
      have BE : Hid (Below w.heap.size w (w4.alloc (.cells #[.int .i64 x, .int .i64 y, .int .i32 b] 90))) := B4.out.alloc B4.out.size _
      go_wp2_with fail
      go_ret
      exact ⟨by simp, BE.out⟩
    · have qe : ((q : Int) != (n : Int)) = true := by simp; omega
      have RF : Hid (R = false) := by show _ = _; rw [IN.out]; simp [qn]
      clear HB FI IN
      go_enter Tryz.func46, Tryz.ntmps46
      go_wp2_with fail
      refine HE.out.mono ?_
      rintro e w1 ⟨rfl, e1⟩
      obtain rfl := e1.symm
      go_wp2_with fail
      refine HRT.out.mono ?_
      rintro e w2 ⟨rfl, hb⟩
      have B2 := hideD hb
      clear hb
      go_wp2_with fail
      refine (HD.out _ B2.out).mono ?_
      rintro e w3 ⟨rfl, e3⟩
      obtain rfl := e3.symm
      clear e3
      go_wp2_with fail
      go_ret
      exact ⟨by rw [RF.out]; rfl, B2.out⟩
end Go.Proofs.YtnfkmpickmonoaaGreat
