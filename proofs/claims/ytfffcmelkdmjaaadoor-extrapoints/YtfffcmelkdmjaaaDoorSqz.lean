/-
  The walk of the statement ExtraPoints.
-/
import Derived.Test.YtfffcmelkdmjaaaDoorSpz
import Derived.Test.YtfffcmelkdmjaaaDoorFcz
import Derived.Test.YtfffcmelkdmjaaaDoorOuz
import Derived.Test.YtfffcmelkdmjaaaDoorWtz
import Derived.Deep.RegionWith
import Derived.Deep.CutBlock
import Derived.Deep.DeepCutAuto
import Derived.Deep.LoopGhost
import Derived.Deep.QuietTactic
import Derived.BigQuiet
namespace Go.Proofs.YtfffcmelkdmjaaaDoor
open Go.RowKit
set_option linter.unusedVariables false
set_option maxRecDepth 100000
theorem UsAt.past {w w' : World} {v : Value} {l : List Int} (h : UsAt w v l) (hb : Below w.heap.size w w') : UsAt w' v l := by
  rcases h with ⟨ad, c, h1, h2⟩ | ⟨b, off, cap, h1, h2⟩
  · exact .inl ⟨ad, c, h1, h2⟩
  · exact .inr ⟨b, off, cap, h1, fun j hj => kc _ _ hb (h2 j hj)⟩
theorem UsAt.form {w : World} {v : Value} {l : List Int} (h : UsAt w v l) : ∃ ad cap, v = .slice ad l.length cap := by
  rcases h with ⟨ad, c, rfl, rfl⟩ | ⟨b, off, cap, rfl, _⟩
  · exact ⟨ad, c, rfl⟩
  · exact ⟨_, cap, rfl⟩
theorem UsAt.at {w : World} {ad : Option Addr} {q cap : Nat} {l : List Int} (h : UsAt w (.slice ad q cap) l) (hl : l.length = q) (k : Nat) (hk : k < q) : ∃ cb off, ad = some ⟨cb, off, none⟩ ∧ w.cell? ⟨cb, off + k, none⟩ = some (.int .u32 (l.getD k 0)) := by
  rcases h with ⟨ad', c', e, e'⟩ | ⟨cb, off, cap', e, hcell⟩
  · subst e'; simp at hl; omega
  · injection e with e1 e2 e3
    exact ⟨cb, off, e1, hcell k (by omega)⟩
theorem empty_is (b n : Nat) (c : Row) (w : World) (hn : n ≤ 8) (hz : ZoneAt w b n c) :
    Calls Tryd.prog 52 #[.pointer (some ⟨b, 0, none⟩)] w fun e w' => e = .returned (.bool (decide (c 0 < 1))) ∧ Below w.heap.size w w' := by
  have H := hideD (hollow_any b n c w hn hz)
  generalize decide (c 0 < 1) = q at *
  clear hz
  go_enter Tryd.func52, Tryd.ntmps52
  go_wp2_with fail
  refine H.out.mono ?_
  rintro e w' ⟨rfl, hb⟩
  go_wp2_with fail
  go_ret
  exact ⟨rfl, hb⟩
/-- The valuation that the law fills. -/
structure Vals (w : World) (gv n : Nat) (V : Nat → Int) : Prop where
  vals : ∀ j, j ≤ n → w.cell? ⟨gv, j, none⟩ = some (.int .i64 (V j))
  vfree : ∀ a, w.frozen? ⟨gv, a, none⟩ = false
theorem Vals.val {w : World} {gv n I : Nat} {V V' : Nat → Int} {y : Int} (h : Vals w gv n V) (hj : V' I = y) (ho : ∀ i, ¬ i = I → V' i = V i) (hI : I ≤ n) : Vals (w.setCell ⟨gv, I, none⟩ (.int .i64 y)) gv n V' where
  vals := fun i hi => by
    by_cases e : i = I
    · subst e; rw [World.cell?_setCell_same _ _ _ (h.vals _ hi), hj]
    · rw [World.cell?_setCell_other _ _ _ _ (by intro e; injection e; omega), ho i e]; exact h.vals i hi
  vfree := fun a => by rw [World.frozen?_setCell]; exact h.vfree a
theorem Vals.past {w w' : World} {gv n : Nat} {V : Nat → Int} (h : Vals w gv n V) (hg : gv < w.heap.size) (hb : Below w.heap.size w w') : Vals w' gv n V := ⟨fun j hj => kc _ _ hb (h.vals j hj), fun a => (hb.frozen (p := ⟨gv, a, none⟩) hg).trans (h.vfree a)⟩
theorem right_bd {x : Int} (h : rightB x = true) : -536870912 ≤ x ∧ x ≤ 2147483647 := by
  simp only [rightB, decide_eq_true_eq] at h; omega
theorem V0_zero (l : List Int) : V0 l 0 = 0 := by unfold V0; rw [if_neg (by omega)]
set_option maxHeartbeats 16000000 in
theorem extraPoints.walk (n : Int) (hn : (Lit.int .i64 n).wf = true) (v : Value) (l : List Int) (v0 : Value) (l0 : List Int) (v1 : Value) (l1 : List Int) (w : World) (ht : Pow w) (hS : SliceAt w v l) (wf : ∀ z ∈ l, (Lit.int .i32 z).wf = true) (hby : l.length * 4 ≤ 140737488355328) (hnil : ∀ {c}, v = .slice none 0 c → c = 0)
    (hi0 : IntsAt w v0 l0) (wf0 : ∀ z ∈ l0, (Lit.int .i64 z).wf = true) (by0 : l0.length ≤ 9223372036854775807) (hi1 : UsAt w v1 l1) (wf1 : ∀ z ∈ l1, (Lit.int .u32 z).wf = true) (by1 : l1.length ≤ 9223372036854775807) :
    Calls Tryd.prog 15 #[.int .i64 n, v, .agg #[v0, v1]] w fun e w' => e = .returned (.bool true) ∧ Below w.heap.size w w' := by
  obtain ⟨o, z1, N1, s1⟩ := both5_any n v l w hS (wf_cells wf) (by omega)
  obtain ⟨d0, p0, rfl⟩ := hi0.form
  obtain ⟨d1, p1, rfl⟩ := hi1.form
  have HV : Hid (∀ w', Below w.heap.size w w' → Calls Tryd.prog 63 #[] w' fun e w'' => e = .returned (.bool true) ∧ Below w'.heap.size w' w'') := fun w' hb => elive_any w' (pow_later ht hb)
  have I0 : Hid (∀ w', Below w.heap.size w w' → IntsAt w' (.slice d0 l0.length p0) l0) := fun w' hb => hi0.past hb
  have I1 : Hid (∀ w', Below w.heap.size w w' → ∀ k, k < l1.length → ∃ cb off, d1 = some ⟨cb, off, none⟩ ∧ w'.cell? ⟨cb, off + k, none⟩ = some (.int .u32 (l1.getD k 0))) := fun w' hb k hk => (hi1.past hb).at rfl k hk
  have BD := hideD (V0_bd wf1)
  have M1 := hideD (mem_bd wf1)
  have B0 := hideD (below_one w (.cells #[.slice d0 l0.length p0, .slice d1 l1.length p1] 108))
  have S1 := hideD s1
  have X0 : Hid ((w.alloc (.cells #[.slice d0 l0.length p0, .slice d1 l1.length p1] 108)).cell? ⟨w.heap.size, 0, none⟩ = some (.slice d0 l0.length p0)) := by show _ = _; simp [go_sem]
  have Y0 : Hid ((w.alloc (.cells #[.slice d0 l0.length p0, .slice d1 l1.length p1] 108)).cell? ⟨w.heap.size, 1, none⟩ = some (.slice d1 l1.length p1)) := by show _ = _; simp [go_sem]
  clear s1 hS wf hnil hby ht hn hi0 hi1 wf0 wf1
  generalize hq0 : l0.length = q0 at *
  generalize hq1 : l1.length = q1 at *
  have Q0 := hideD hq0
  have Q1 := hideD hq1
  clear hq0 hq1
  go_enter Tryd.func15, Tryd.ntmps15
  go_wp2_with fail
  generalize w.alloc (.cells #[.slice d0 q0 p0, .slice d1 q1 p1] 108) = w0 at *
  have S2 := hideD (S1.out w0 B0.out)
  clear S1
  refine S2.out.mono ?_
  rintro e w1 ⟨⟨p, q, rfl, hp, hq⟩, hb1⟩
  have B1 := hideD (beyondD B0.out hb1.out)
  have x0 := kc _ _ hb1.out X0.out
  have y1 := hideD (kc _ _ hb1.out Y0.out)
  clear S2 hb1 X0 Y0 B0
  cases o with
  | none =>
    obtain rfl := hp.out
    have HN := hideD (max_err _ _ 1 w1 (lu_nil (.slice d0 q0 p0) (.slice d0 q0 p0) w1))
    have HV1 := hideD (HV.out w1 B1.out)
    clear hp hq z1 N1 HV I0 I1 BD
    go_wp2_with fail
    refine HN.out.mono ?_
    rintro e w2 ⟨rfl, rfl⟩
    clear HN
    go_wp2_with fail
    refine HV1.out.mono ?_
    rintro e w3 ⟨rfl, hb3⟩
    go_wp2_with fail
    go_ret
    exact ⟨rfl, beyondD B1.out hb3⟩
  | some u =>
    obtain ⟨N, c⟩ := u
    obtain ⟨hN, c32, b, rfl, hz⟩ := hp.out
    obtain ⟨-, r, BR, rfl, hr⟩ := hq.out
    have zc := z1 N c rfl
    obtain rfl := N1 N c rfl
    have Z1 := hideD hz
    have R1 := hideD hr
    clear hp hq z1 N1 hz hr
    by_cases m0 : mayE N l0 = 0
    · obtain ⟨m, hm⟩ : ∃ m, m = (N + 1) * (N + 1) := ⟨_, rfl⟩
      rw [← hm] at zc R1
      obtain ⟨len, cst⟩ := mayE_zero m0
      obtain rfl : q0 = N := by have := Q0.out; omega
      have EM : Hid (∀ w', ZoneAt w' b q0 c → Calls Tryd.prog 52 #[.pointer (some ⟨b, 0, none⟩)] w' fun e w'' => e = .returned (.bool (decide (c 0 < 1))) ∧ Below w'.heap.size w' w'') := fun w' h => empty_is b q0 c w' hN h
      by_cases c0 : c 0 < 1
      · obtain ⟨ca, za, ia, a1, a2, TA⟩ := lu_row hN hm zc m0 m0
        have hA1 := hideD (max_tells _ _ q0 _ w1 (TA w1 b q0 p0 q0 p0 d0 d0 Z1.out Q0.out (I0.out w1 B1.out) Q0.out (I0.out w1 B1.out)))
        unfold Tells at hA1
        clear TA m0 cst za ia a1 a2 zc R1 I1 I0 BD M1 hm c32
        go_wp2_with fail
        refine hA1.out.mono ?_
        rintro e w2 ⟨⟨B, pa, -, rfl, ha⟩, hb2⟩
        have B2 := hideD (beyondD B1.out hb2)
        have E2 := hideD (EM.out w2 (Z1.out.past hb2))
        rw [decide_eq_true c0] at E2
        clear hA1 ha hb2 B1 Z1 EM
        go_wp2_with fail
        refine E2.out.mono ?_
        rintro e w3 ⟨rfl, hb3⟩
        have B3 := hideD (beyondD B2.out hb3)
        have HV3 := hideD (HV.out w3 B3.out)
        clear E2 hb3 B2 HV
        go_wp2_with fail
        refine HV3.out.mono ?_
        rintro e w4 ⟨rfl, hb4⟩
        go_wp2_with fail
        go_ret
        exact ⟨rfl, beyondD B3.out hb4⟩
      · have c1' : c 0 = 1 := by
          rcases zc with rfl | ⟨p, hp⟩
          · exact absurd (show (0 : Int) < 1 by omega) c0
          · exact hp.zero hm
        obtain ⟨c1, ca, zc1, zca, eL, R0, f1, c10, FG, PTS⟩ := lu_pts hN hm zc m0 c1'
        have LT := lu_tells hN hm Z1.out zc Q0.out (I0.out w1 B1.out) Q0.out (I0.out w1 B1.out) m0 m0 zc1 R0 f1
        rw [eL] at LT
        have hA1 := hideD (max_tells _ _ q0 _ w1 LT)
        unfold Tells at hA1
        have PT := hideD (PTS (V0 l1) (V0_zero l1) (fun i => (BD.out i).1))
        have mp : 0 < m := by rw [hm]; exact Nat.mul_pos (by omega) (by omega)
        have m81 : m ≤ 81 := by rw [hm]; exact Nat.mul_le_mul (show q0 + 1 ≤ 9 by omega) (show q0 + 1 ≤ 9 by omega)
        have RG : Hid (∀ w' (u : Value), RZone w' BR r q0 (listOf c m) → IntsAt w' u (silL l0 l0 q0) → Calls Tryd.prog 69 #[.pointer (some ⟨r, 0, none⟩), u] w' fun e w'' => (∃ r', e = .returned (.tuple #[.pointer (some ⟨r', 0, none⟩), .int .i64 0]) ∧ Hid (∃ B, RZone w'' B r' q0 (listOf c1 m))) ∧ Hid (Below w'.heap.size w' w'')) := fun w' u hr hu => by
          obtain ⟨ad, cap, rfl⟩ := hu.form
          refine (rgone_main r q0 m BR _ cap ad c c1 _ w' hN hm hr zc rfl hu (by have := silL_len l0 l0 q0; omega) (fun _ => zc1) (fun _ h => by omega) (fun _ _ => FG)).mono fun e w'' ⟨h1, h2⟩ => ?_
          rcases h1 with ⟨h, -⟩ | ⟨-, h⟩
          · rw [sil_has] at h; cases h
          · obtain ⟨r', h3, h4⟩ := ref_form h
            exact ⟨⟨r', h3, h4⟩, h2⟩
        have RC : Hid (∀ w' r' B, RZone w' B r' q0 (listOf c1 m) → Calls Tryd.prog 66 #[.pointer (some ⟨r', 0, none⟩)] w' fun e w'' => (∃ g cap, e = .returned (.slice (some ⟨g, 0, none⟩) m cap) ∧ Hid (∀ k, k < m → w''.cell? ⟨g, k, none⟩ = some (.int .i32 (c1 k)))) ∧ Hid (Below w'.heap.size w' w'')) := fun w' r' B hr => by
          obtain ⟨g, cap, h1, h2, h3, h4, h5⟩ := hr
          rw [listOf_len] at h2
          refine (rcells_own r' g q0 cap m _ w' (listOf_len _ _) m81 mp h2 h5).mono fun e w'' ⟨⟨g', cap', k1, k2, k3, k4, k5⟩, k6⟩ => ⟨⟨g', cap', k1, fun k hk => ?_⟩, k6⟩
          have := k4 k (by rw [listOf_len]; exact hk)
          rw [listOf_get _ _ _ hk, Nat.zero_add] at this
          exact this
        have CE : Hid (∀ b' w', ZoneAt w' b' q0 ca → Calls Tryd.prog 65 #[.pointer (some ⟨b', 0, none⟩)] w' fun e w'' => (∃ g cap, e = .returned (.slice (some ⟨g, 0, none⟩) m cap) ∧ Hid (∀ k, k < m → w''.cell? ⟨g, k, none⟩ = some (.int .i32 (ca k)))) ∧ Hid (Below w'.heap.size w' w'')) := fun b' w' hz => (cells_any b' q0 ca w' hz hN).mono fun e w'' ⟨⟨v, h1, g, cap, h2, h3, h4, h5⟩, h6⟩ => by
          refine ⟨⟨g, cap, by rw [h1, h2, listOf_len, hm], fun k hk => ?_⟩, h6⟩
          have := h5 k (by rw [listOf_len, ← hm]; exact hk)
          rw [← hm, listOf_get _ _ _ hk, Nat.zero_add] at this
          exact this
        have HH : Hid (∀ (x : Int) i j w', rightB x = true → Calls Tryd.prog 74 #[.int .i32 x, .int .i64 (V0 l1 i - V0 l1 j), .int .i64 2] w' fun e w'' => e = .returned (.bool (holdsB x (V0 l1 i - V0 l1 j) 2)) ∧ w'' = w') := fun x i j w' hx => rholds_any x _ 2 w' hx (by have := BD.out i; have := BD.out j; omega) (by have := BD.out i; have := BD.out j; omega) (by omega) (by omega)
        have RA := hideD (zc_right hm zca)
        have RW := hideD (zc_right hm zc1)
        have CST : Hid (∀ k, k < q0 → -1 ≤ l0.getD k 0 ∧ l0.getD k 0 ≤ 1048576) := fun k hk => cstA_at cst k (by omega)
        have HPl : Hid (∀ i j, i ≤ q0 → j ≤ q0 → i * (q0 + 1) + j < m ∧ (i * (q0 + 1) + j) / (q0 + 1) = i ∧ (i * (q0 + 1) + j) % (q0 + 1) = j) := fun i j hi hj => ⟨by rw [hm]; exact pos_lt hi hj, place_div hj, place_mod hj⟩
        have HEnd : Hid ((q0 + 1) * (q0 + 1) = m) := hm.symm
        have HMul : Hid (∀ i : Nat, (i : Int) * ((q0 : Int) + 1) = ((i * (q0 + 1) : Nat) : Int)) := fun i => by rw [Int.natCast_mul]; rfl
        have HSq : Hid (wrap64 (((q0 : Int) + 1) * ((q0 : Int) + 1)) = (m : Int)) := by
          show _ = _
          have e : ((q0 : Int) + 1) * ((q0 : Int) + 1) = (((q0 + 1) * (q0 + 1) : Nat) : Int) := by rw [Int.natCast_mul]; rfl
          rw [e, ← hm]
          exact wrap_small (by omega)
        have IC : Hid (∀ w', Below w.heap.size w w' → ∀ k, k < q0 → ∃ cb off, d0 = some ⟨cb, off, none⟩ ∧ w'.cell? ⟨cb, off + k, none⟩ = some (.int .i64 (l0.getD k 0))) := fun w' hb k hk => (I0.out w' hb).at Q0.out k hk
        have NX : Hid (∀ K, K < q0 → silL l0 l0 (K + 1) = if l0.getD K 0 < 0 then silL l0 l0 K ++ [(K : Int) + 1] else silL l0 l0 K) := fun K hK => sil_next l0 K (CST.out K hK).1
        have LN := hideD (silL_len l0 l0)
        have C0 := hideD (decide_eq_false c0)
        clear c0 LT PTS zc zc1 zca eL R0 f1 c10 FG m0 cst c1' len I0 hm c32
        go_wp2_with fail
        refine hA1.out.mono ?_
        rintro e w2 ⟨⟨B, pa, -, rfl, ha⟩, hb2⟩
        have B2 := hideD (beyondD B1.out hb2)
        have E2 := hideD (EM.out w2 (Z1.out.past hb2))
        rw [C0.out] at E2
        have A2 := hideD ha
        have R2 : Hid (RZone w2 BR r q0 (listOf c m)) := R1.out.past hb2
        have x2 := hideD (kc _ _ hb2 x0)
        have y2 := hideD (kc _ _ hb2 y1.out)
        clear hA1 ha hb2 B1 Z1 EM R1 x0 y1 C0
        go_wp2_with fail
        refine E2.out.mono ?_
        rintro e w3 ⟨rfl, hb3⟩
        have B3 := hideD (beyondD B2.out hb3)
        have CE3 := hideD (CE.out pa w3 (A2.out.past hb3))
        have R3 : Hid (RZone w3 BR r q0 (listOf c m)) := R2.out.past hb3
        have x3 := hideD (kc _ _ hb3 x2.out)
        have y3 := hideD (kc _ _ hb3 y2.out)
        clear E2 hb3 B2 A2 R2 x2 y2 CE
        have n8 : ¬ ((8 : Int) < (q0 : Int)) := by omega
        have n0 : ¬ ((q0 : Int) < 0) := by omega
        go_wp2_with fail
        refine CE3.out.mono ?_
        rintro e w4 ⟨⟨gc, cpc, rfl, hcc⟩, hb4⟩
        have B4 := hideD (beyondD B3.out hb4.out)
        have R4 : Hid (RZone w4 BR r q0 (listOf c m)) := R3.out.past hb4.out
        have xc := kc _ _ hb4.out x3.out
        have x4 := hideD xc
        have y4 := hideD (kc _ _ hb4.out y3.out)
        clear CE3 hb4 B3 R3 x3 y3
        have sq := HSq.out
        have e1 : wrap64 ((q0 : Int) + 1) = (q0 : Int) + 1 := wrap_small (k := q0 + 1) (by omega)
        clear mp
        go_upto_region 8 with (fail)
        clear sq HSq xc n8 n0
        go_upto_block 0 with (fail)
        go_cut [12, 13] (fun u s wx => (∃ ua uk uc, u = .slice ua uk uc ∧ Hid (IntsAt wx (.slice ua uk uc) (silL l0 l0 q0))) ∧ Hid (Below w4.heap.size w4 wx))
        case first =>
          as_aux_lemma =>
            go_wp2_with fail
            obtain ⟨i0, hi0, hz0, hz1, hz2⟩ := info_parts info_int
            go_loopg [12, 13] q0 (fun g u s wr => ∃ (K : Nat), K ≤ q0 ∧ g = q0 - K ∧ s = .int .i64 (K : Int) ∧ Hid (wr.ownsRow w4.heap.size 3 1 u (silL l0 l0 K).length ((silL l0 l0 K).map (Value.int .i64))) ∧ Hid (Below w4.heap.size w4 wr))
            case atStart => exact ⟨0, by omega, rfl, rfl, World.ownsRow_nil _ _ _ _, Below.refl _ _⟩
            case round =>
              obtain ⟨K, hK, rfl, rfl, hown, hB⟩ := hrel
              by_cases ck : K < q0
              · have k0 : (0 : Int) ≤ (K : Int) := by omega
                have k1 : (K : Int) < (q0 : Int) := by omega
                obtain ⟨cb, off, rfl, a1⟩ := IC.out wr (beyondD B4.out hB.out) K ck
                have nx := hideD (NX.out K ck)
                have ln := hideD (LN.out K)
                have hsz := hideD hB.out.size
                have xr := kc _ _ hB.out x4.out
                generalize l0.getD K 0 = x at *
                go_upto_block 1 with (fail)
                clear HV I1 BD M1 PT RC RG HH RA RW CST HPl HEnd HMul IC B4 R4 x4 y4 hcc NX LN
                go_cut [12] (fun v wx => Hid (wx.ownsRow w4.heap.size 3 1 v (silL l0 l0 (K + 1)).length ((silL l0 l0 (K + 1)).map (Value.int .i64))) ∧ Hid (Below w4.heap.size w4 wx))
                case first =>
                  by_cases cx : x < 0
                  · rw [if_pos cx] at nx
                    have HN : Hid (∀ j u, [Value.int .i64 ((K : Int) + 1)][j]? = some u → (wr.alloc (.cells #[.int .i64 ((K : Int) + 1)] 3)).cell? ((⟨wr.heap.size, 0, none⟩ : Addr).add j) = some u) := by
                      intro j u hj
                      match j, hj with
                      | 0, hj => simp at hj; subst hj; simp [Addr.add]
                    have ew : wrap64 ((K : Int) + 1) = (K : Int) + 1 := by unfold wrap64; omega
                    generalize hS : silL l0 l0 K = s at *
                    have HS := hideD hS
                    clear hS
                    have HL : Hid (s.length ≤ 8 ∧ K < q0 ∧ q0 ≤ 8) := ⟨by have := ln.out; omega, ck, hN⟩
                    go_upto_region 13 with (fail)
                    clear xr a1 ln m81 by0 by1 cx k1 e1 ck
                    go_wp2_with (at_builtin; first | (refine wpList_append_own _ rfl _ _ 74 rfl w4.heap.size 3 i0 (.int .i64 0) 1 8 Tryd.underlying74 hi0 hz0 hz1 hz2 rfl (by decide) _ s.length (s.map (Value.int .i64)) rfl (hown.out.alloc _) ⟨wr.heap.size, 0, none⟩ 1 1 [.int .i64 ((K : Int) + 1)] rfl rfl HN.out (fun u hu => by simp at hu; subst hu; rfl) (by have := HL.out; unfold maxLen; omega) (by have := HL.out; omega) (by have := hsz.out; simp; omega) ?_; intro v' w1 hown'' hgrow' hnil; have HO := hideD hown''; have HG := hideD hgrow'; clear hown'' hgrow' hnil))
                    have hown' := HO.out
                    have hgrow := HG.out
                    have hsz' := hsz.out
                    have hb1 : Below w4.heap.size w4 w1 := (hB.out.alloc hsz' _).grown hgrow (by simp; omega) (by intro q hq; exact (hown.out.lt q hq).1)
                    have B5 := hideD hb1
                    have own5 : Hid (w1.ownsRow w4.heap.size 3 1 v' (silL l0 l0 (K + 1)).length ((silL l0 l0 (K + 1)).map (Value.int .i64))) := by
                      show w1.ownsRow _ _ _ _ _ _
                      rw [nx.out, List.map_append, List.length_append]
                      exact hown'
                    clear hown' hgrow hb1 HN hown hB HO HG hsz' hsz
                    go_meet
                    exact ⟨own5, B5⟩
                  · rw [if_neg cx] at nx
                    rw [← nx.out] at hown
                    clear ln hsz nx m81 by0 by1 e1
                    go_wp2_with fail
                    go_meet
                    exact ⟨hown, hB⟩
                case rest =>
                  obtain ⟨o5, b5⟩ := hcut
                  clear hown hB hsz nx ln xr a1
                  go_wp2_with fail
                  go_roundg (q0 - (K + 1))
                  case measure => omega
                  case rel => exact ⟨K + 1, by omega, rfl, by go_num, o5, b5⟩
              · have eK : K = q0 := by omega
                subst eK
                obtain ⟨ua, uk, uc, rfl, hint, -⟩ := own_ints hown.out
                have HI := hideD hint
                clear hown hint HV I1 BD M1 PT RC RG HH RA RW CST HPl HEnd HMul IC B4 R4 x4 y4 hcc NX LN
                go_wp2_with fail
                go_meet
                exact ⟨⟨ua, uk, uc, rfl, HI⟩, hB⟩
        case rest =>
          obtain ⟨⟨ua, uk, uc, rfl, hint⟩, hB⟩ := hcut
          have B5 := hideD (beyondD B4.out hB.out)
          have G5 := hideD (RG.out wc _ (R4.out.past hB.out) hint.out)
          have x5 := hideD (kc _ _ hB.out x4.out)
          have y5 := hideD (kc _ _ hB.out y4.out)
          have hc5 : Hid (∀ k, k < m → wc.cell? ⟨gc, k, none⟩ = some (.int .i32 (ca k))) := fun k hk => kc _ _ hB.out (hcc.out k hk)
          clear hint hB RG R4 x4 y4 hcc NX LN B4
          go_wp2_with fail
          refine G5.out.mono ?_
          rintro e w5 ⟨⟨r', rfl, hr'⟩, hb5⟩
          obtain ⟨B', hr''⟩ := hr'.out
          have B6 := hideD (beyondD B5.out hb5.out)
          have RC6 := hideD (RC.out w5 r' B' hr'')
          have x6 := hideD (kc _ _ hb5.out x5.out)
          have y6 := hideD (kc _ _ hb5.out y5.out)
          have hc6 : Hid (∀ k, k < m → w5.cell? ⟨gc, k, none⟩ = some (.int .i32 (ca k))) := fun k hk => kc _ _ hb5.out (hc5.out k hk)
          clear G5 hb5 B5 x5 y5 hc5 RC hr' hr''
          go_wp2_with fail
          refine RC6.out.mono ?_
          rintro e w6 ⟨⟨gl, cpl, rfl, hcl⟩, hb6⟩
          have B7 := hideD (beyondD B6.out hb6.out)
          have x7 := hideD (kc _ _ hb6.out x6.out)
          have y7 := hideD (kc _ _ hb6.out y6.out)
          have hc7 : Hid (∀ k, k < m → w6.cell? ⟨gc, k, none⟩ = some (.int .i32 (ca k))) := fun k hk => kc _ _ hb6.out (hc6.out k hk)
          clear RC6 hb6 B6 x6 y6 hc6
          have hmk := make_i64s (q0 + 1) (by omega)
          have cN : ((q0 + 1 : Nat) : Int) = (q0 : Int) + 1 := by omega
          simp only [cN] at hmk
          clear cN
          have ASK0 : Hid (Vals (w6.alloc (.cells (madeCells #[.int .i64 0] (q0 + 1)) 2)) w6.heap.size q0 (vF l1 1)) := ⟨fun j hj => by
            rw [made_ints (q0 + 1) w6 _ j (by omega)]
            unfold vF V0
            by_cases e : j < 1
            · rw [if_pos e, if_neg (by omega)]
            · rw [if_neg e], fun a => by simp [go_sem]⟩
          have BW := hideD (below_one w6 (.cells (madeCells #[.int .i64 0] (q0 + 1)) 2))
          have GV : Hid (w6.heap.size < (w6.alloc (.cells (madeCells #[.int .i64 0] (q0 + 1)) 2)).heap.size) := by show _ < _; simp
          go_upto_region 17 with (fail)
          generalize w6.alloc (.cells (madeCells #[.int .i64 0] (q0 + 1)) 2) = w7 at *
          obtain ⟨gv, hgv⟩ : ∃ gv, gv = w6.heap.size := ⟨_, rfl⟩
          have GL : Hid (w6.heap.size ≤ gv) := by show _ ≤ _; omega
          rw [← hgv] at ASK0 GV
          try rw [← hgv]
          clear hgv hmk
          go_upto_block 2 with (fail)
          go_cut [17] (fun s wx => Hid (Vals wx gv q0 (V0 l1)) ∧ Hid (Below w6.heap.size w6 wx))
          case first =>
            as_aux_lemma =>
              go_wp2_with fail
              go_loopg [17] q0 (fun g s w9 => ∃ (I : Nat), 1 ≤ I ∧ I ≤ q0 + 1 ∧ g = q0 + 1 - I ∧ s = .int .i64 (I : Int) ∧ Hid (Vals w9 gv q0 (vF l1 I)) ∧ Hid (Below w6.heap.size w6 w9))
              case atStart => exact ⟨1, by omega, by omega, by omega, rfl, ASK0, BW⟩
              case round =>
                obtain ⟨I, hI1, hI, rfl, rfl, hA, hB6⟩ := hrel
                clear ASK0 BW
                have yc := kc _ _ hB6.out y7.out
                by_cases ci : I ≤ q0 ∧ I ≤ q1
                · have i1 : (I : Int) ≤ (q0 : Int) := by omega
                  have i2 : (I : Int) ≤ (q1 : Int) := by omega
                  obtain ⟨J, hJ⟩ : ∃ J, I = J + 1 := ⟨I - 1, by omega⟩
                  have ij : (I : Int) - 1 = (J : Int) := by omega
                  have j0 : (0 : Int) ≤ (J : Int) := by omega
                  have j1 : (J : Int) < (q1 : Int) := by omega
                  have i3 : (I : Int) < (q0 : Int) + 1 := by omega
                  have i0' : (0 : Int) ≤ (I : Int) := by omega
                  obtain ⟨cb, off, rfl, xj⟩ := I1.out _ (beyondD B7.out hB6.out) J (by omega)
                  have mb := M1.out J
                  have cv : IntKind.i64.wrap (l1.getD J 0) = l1.getD J 0 := by rw [IntKind.wrap_i64]; omega
                  have cv2 : wrap64 (l1.getD J 0) = l1.getD J 0 := by unfold wrap64; omega
                  have nA : Hid (Vals (wr.setCell ⟨gv, I, none⟩ (.int .i64 (l1.getD J 0))) gv q0 (vF l1 (I + 1))) := hA.out.val (by
                    unfold vF V0
                    rw [if_pos (by omega), if_pos (by have := Q1.out; omega), hJ]
                    rfl) (fun i hi => by
                    unfold vF
                    by_cases e : i < I
                    · rw [if_pos e, if_pos (by omega)]
                    · rw [if_neg e, if_neg (by omega)]) (by omega)
                  have nB := hideD (hB6.out.setCell (p := ⟨gv, I, none⟩) GL.out (.int .i64 (l1.getD J 0)))
                  have y0 := hA.out.vals I (by omega)
                  have z0 := hA.out.vfree I
                  generalize l1.getD J 0 = y at *
                  clear hJ hA hB6 mb HH PT CST HV IC BD hc7 hcl x7 RA RW HPl HMul I1 M1
                  go_wp2_with fail
                  go_roundg (q0 + 1 - (I + 1))
                  case measure => omega
                  case rel => exact ⟨I + 1, by omega, by omega, rfl, by go_num, nA, nB⟩
                · have full : Hid (Vals wr gv q0 (V0 l1)) := ⟨fun j hj => by
                    have := hA.out.vals j hj
                    unfold vF at this
                    by_cases e : j < I
                    · rw [if_pos e] at this; exact this
                    · rw [if_neg e] at this
                      unfold V0
                      rw [if_neg (by have := Q1.out; omega)]
                      exact this, hA.out.vfree⟩
                  clear hA HH PT CST HV IC BD hc7 hcl x7 RA RW HPl HMul I1 M1
                  by_cases cN : I ≤ q0
                  · have i1 : (I : Int) ≤ (q0 : Int) := by omega
                    have i2 : ¬ ((I : Int) ≤ (q1 : Int)) := by omega
                    clear hI hI1 ci
                    go_wp2_with fail
                    go_meet
                    exact ⟨full, hB6⟩
                  · have i1 : ¬ ((I : Int) ≤ (q0 : Int)) := by omega
                    clear hI hI1 ci
                    go_wp2_with fail
                    go_meet
                    exact ⟨full, hB6⟩
          case rest =>
            obtain ⟨hV, hB8⟩ := hcut
            obtain ⟨w8, h8⟩ : ∃ w8, w8 = wc := ⟨_, rfl⟩
            subst h8
            have B8 := hideD (beyondD B7.out hB8.out)
            have V8 := hV
            have GV8 : Hid (gv < w8.heap.size) := World.block_lt_of_cell? _ _ (hV.out.vals 0 (by omega))
            have x8 := hideD (kc _ _ hB8.out x7.out)
            have hc8 : Hid (∀ k, k < m → w8.cell? ⟨gc, k, none⟩ = some (.int .i32 (ca k))) := fun k hk => kc _ _ hB8.out (hc7.out k hk)
            have hcl8 : Hid (∀ k, k < m → w8.cell? ⟨gl, k, none⟩ = some (.int .i32 (c1 k))) := fun k hk => kc _ _ hB8.out (hcl.out k hk)
            clear hV hB8 B7 x7 y7 hc7 hcl ASK0 BW GV GL I1 M1
            go_upto_block 4 with (fail)
            go_cut [14] (fun b wx => b = .bool (inA q0 (wdR q0 l0 l0 c1) (V0 l1) m) ∧ Hid (Below w8.heap.size w8 wx))
            case first =>
              as_aux_lemma =>
                go_wp2_with fail
                go_loopg [14, 18] (q0 + 1) (fun g b s w9 => ∃ (i : Nat), i ≤ q0 + 1 ∧ g = q0 + 1 - i ∧ s = .int .i64 (i : Int) ∧ b = .bool (inA q0 (wdR q0 l0 l0 c1) (V0 l1) (i * (q0 + 1))) ∧ Hid (Below w8.heap.size w8 w9))
                case atStart => exact ⟨0, by omega, rfl, rfl, by rw [Nat.zero_mul]; rfl, Below.refl _ _⟩
                case round =>
                  obtain ⟨i, hi, rfl, rfl, rfl, hBo⟩ := hrel
                  obtain ⟨wo, ho⟩ : ∃ wo, wo = wr := ⟨_, rfl⟩
                  subst ho
                  by_cases ci : i ≤ q0
                  · have ci1 : (i : Int) ≤ (q0 : Int) := by omega
                    have F0 : inA q0 (wdR q0 l0 l0 c1) (V0 l1) (i * (q0 + 1)) = inA q0 (wdR q0 l0 l0 c1) (V0 l1) (i * (q0 + 1) + 0) := rfl
                    go_upto_block 5 with (fail)
                    go_cut [14] (fun b w9 => b = .bool (inA q0 (wdR q0 l0 l0 c1) (V0 l1) ((i + 1) * (q0 + 1))) ∧ Hid (Below w8.heap.size w8 w9))
                    case first =>
                      go_wp2_with fail
                      rw [F0]
                      go_loopg [14, 19] (q0 + 1) (fun g b s w9 => ∃ (j : Nat), j ≤ q0 + 1 ∧ g = q0 + 1 - j ∧ s = .int .i64 (j : Int) ∧ b = .bool (inA q0 (wdR q0 l0 l0 c1) (V0 l1) (i * (q0 + 1) + j)) ∧ Hid (Below w8.heap.size w8 w9))
                      case atStart => exact ⟨0, by omega, rfl, rfl, rfl, hBo⟩
                      case round =>
                        obtain ⟨j, hj, rfl, rfl, rfl, hB⟩ := hrel
                        clear hBo F0
                        by_cases cj : j ≤ q0
                        · have cj1 : (j : Int) ≤ (q0 : Int) := by omega
                          have cj' := cj
                          obtain ⟨pl, pd, pm⟩ := HPl.out i j ci cj
                          have A1 := hideD (HMul.out i)
                          have hA : Hid (i * (q0 + 1) + j = i * (q0 + 1) + j) := rfl
                          have s1 : i * (q0 + 1) ≤ 1000000 := by omega
                          have s2 : i * (q0 + 1) + j ≤ 1000000 := by omega
                          have s3 : q0 + 1 ≤ 1000000 := by omega
                          have E1 : Hid (wrap64 ((q0 : Int) + 1) = (q0 : Int) + 1) := wrap_small (k := q0 + 1) s3
                          have E2 : Hid (wrap64 ((i : Int) * ((q0 : Int) + 1)) = ((i * (q0 + 1) : Nat) : Int)) := by show _ = _; rw [A1.out]; exact wrap_small s1
                          have E3 : Hid (wrap64 (((i * (q0 + 1) : Nat) : Int) + (j : Int)) = ((i * (q0 + 1) + j : Nat) : Int)) := wrap_small (k := i * (q0 + 1) + j) s2
                          have D1 : Hid (IntKind.i64.wrap ((q0 : Int) + 1) = (q0 : Int) + 1) := wrap_smallK (k := q0 + 1) s3
                          have D2 : Hid (IntKind.i64.wrap ((i : Int) * ((q0 : Int) + 1)) = ((i * (q0 + 1) : Nat) : Int)) := by show _ = _; rw [A1.out]; exact wrap_smallK s1
                          have D3 : Hid (IntKind.i64.wrap (((i * (q0 + 1) : Nat) : Int) + (j : Int)) = ((i * (q0 + 1) + j : Nat) : Int)) := wrap_smallK (k := i * (q0 + 1) + j) s2
                          have pl1 : ((i * (q0 + 1) + j : Nat) : Int) < (m : Int) := by omega
                          have i0' : (0 : Int) ≤ (i : Int) := by omega
                          have j0' : (0 : Int) ≤ (j : Int) := by omega
                          have i9 : (i : Int) < (q0 : Int) + 1 := by omega
                          have j9 : (j : Int) < (q0 : Int) + 1 := by omega
                          have cc := kc _ _ hB.out (hcl8.out _ pl)
                          have vv := hideD (V8.out.past GV8.out hB.out)
                          have xr := kc _ _ hB.out x8.out
                          have BR := hideD (beyondD B8.out hB.out)
                          have SKIP := hideD (fun h1 h2 h3 => wd_skip (n := q0) (lo := l0) (c := c1) (V := V0 l1) (A := i * (q0 + 1) + j) cj rfl h1 h2 h3)
                          have TAKE := hideD (fun h => wd_take (n := q0) (lo := l0) (c := c1) (V := V0 l1) (A := i * (q0 + 1) + j) cj rfl h)
                          have cst0 : ∀ k, k ≤ q0 → 0 ≤ cstN l0 k ∧ cstN l0 k ≤ 1048576 := fun k hk => by
                            unfold cstN
                            split
                            · omega
                            · have := CST.out (k - 1) (by omega); omega
                          have CI := hideD (cst0 i ci)
                          have CJ := hideD (cst0 j cj)
                          clear cst0
                          have BX := hideD (RW.out (i * (q0 + 1) + j))
                          generalize hT2 : inA q0 (wdR q0 l0 l0 c1) (V0 l1) (i * (q0 + 1) + j + 1) = t2 at *
                          have HT2 : Hid (inA q0 (wdR q0 l0 l0 c1) (V0 l1) (i * (q0 + 1) + (j + 1)) = t2) := hT2
                          generalize inA q0 (wdR q0 l0 l0 c1) (V0 l1) (i * (q0 + 1) + j) = t at *
                          generalize hX : c1 (i * (q0 + 1) + j) = x at *
                          have a1 := E1.out
                          have a2 := E2.out
                          have a3 := E3.out
                          clear hT2 hX HPl HMul HEnd A1 hA pl pd pm s1 s2 s3 hcl8 HV PT E1 E2 E3 D1 D2 D3
                          generalize i * (q0 + 1) + j = P at *
                          generalize i * (q0 + 1) = A at *
                          go_upto_region 28 with (fail)
                          clear a1 a2 a3 cc pl1
                          go_cut [183] (fun s wx => (∃ b, s = .bool b ∧ Hid (b = decide (¬ i = 0 ∧ ¬ i = j ∧ 2 * cstN l0 i + 1 < x))) ∧ wr = wx)
                          case first =>
                            as_aux_lemma =>
                              clear SKIP TAKE HH V8 vv BD RA RW CJ
                              by_cases i0 : i = 0
                              · have z : ¬ ((0 : Int) < (i : Int)) := by omega
                                have D0 : Hid (decide (¬ i = 0 ∧ ¬ i = j ∧ 2 * cstN l0 i + 1 < x) = false) := decide_eq_false (by omega)
                                clear IC BR CI i0
                                go_wp2_with fail
                                go_meet
                                exact ⟨⟨_, rfl, D0.out.symm⟩, rfl⟩
                              · have z : (0 : Int) < (i : Int) := by omega
                                by_cases ij : i = j
                                · have e1 : ((i : Int) != (j : Int)) = false := by simp; omega
                                  have D0 : Hid (decide (¬ i = 0 ∧ ¬ i = j ∧ 2 * cstN l0 i + 1 < x) = false) := decide_eq_false (fun h => h.2.1 ij)
                                  clear IC BR CI ij
                                  go_wp2_with fail
                                  go_meet
                                  exact ⟨⟨_, rfl, D0.out.symm⟩, rfl⟩
                                · have e1 : ((i : Int) != (j : Int)) = true := by simp; omega
                                  obtain ⟨J, hJ⟩ : ∃ J, i = J + 1 := ⟨i - 1, by omega⟩
                                  have ij' : (i : Int) - 1 = (J : Int) := by omega
                                  have j0 : (0 : Int) ≤ (J : Int) := by omega
                                  have j1 : (J : Int) < (q0 : Int) := by omega
                                  obtain ⟨cb, off, rfl, ai⟩ := IC.out wr BR.out J (by omega)
                                  have cs := CST.out J (by omega)
                                  have CN : Hid (cstN l0 i = max (l0.getD J 0) 0) := by show _ = _; unfold cstN; rw [if_neg i0, hJ]; rfl
                                  generalize l0.getD J 0 = y at *
                                  have bx : -536870912 ≤ x ∧ x ≤ 2147483647 := right_bd BX.out
                                  have HJ := hideD hJ
                                  clear IC BR CI BX hJ
                                  by_cases y0 : y < 0
                                  · have y1 : ¬ (0 ≤ y) := by omega
                                    by_cases x1 : 1 < x
                                    · have D0 : Hid (decide (¬ i = 0 ∧ ¬ i = j ∧ 2 * cstN l0 i + 1 < x) = true) := decide_eq_true (by have := CN.out; omega)
                                      clear ij i0
                                      go_wp2_with fail
                                      go_meet
                                      exact ⟨⟨_, rfl, D0.out.symm⟩, rfl⟩
                                    · have D0 : Hid (decide (¬ i = 0 ∧ ¬ i = j ∧ 2 * cstN l0 i + 1 < x) = false) := decide_eq_false (by have := CN.out; omega)
                                      clear ij i0
                                      go_wp2_with fail
                                      go_meet
                                      exact ⟨⟨_, rfl, D0.out.symm⟩, rfl⟩
                                  · have y1 : 0 ≤ y := by omega
                                    have w1 : wrap64 (2 * y) = 2 * y := by unfold wrap64; omega
                                    have w2 : wrap64 (2 * y + 1) = 2 * y + 1 := by unfold wrap64; omega
                                    have w3 : IntKind.i32.wrap (2 * y + 1) = 2 * y + 1 := by rw [IntKind.wrap_i32]; omega
                                    by_cases x1 : 2 * y + 1 < x
                                    · have D0 : Hid (decide (¬ i = 0 ∧ ¬ i = j ∧ 2 * cstN l0 i + 1 < x) = true) := decide_eq_true (by have := CN.out; omega)
                                      clear ij i0
                                      go_wp2_with fail
                                      go_meet
                                      exact ⟨⟨_, rfl, D0.out.symm⟩, rfl⟩
                                    · have D0 : Hid (decide (¬ i = 0 ∧ ¬ i = j ∧ 2 * cstN l0 i + 1 < x) = false) := decide_eq_false (by have := CN.out; omega)
                                      clear ij i0
                                      go_wp2_with fail
                                      go_meet
                                      exact ⟨⟨_, rfl, D0.out.symm⟩, rfl⟩
                          case rest =>
                            obtain ⟨⟨sk, rfl, hsk⟩, hw⟩ := hcut
                            subst hw
                            cases sk with
                            | true =>
                              obtain ⟨h1, h2, h3⟩ := of_decide_eq_true hsk.out.symm
                              have SK := hideD (SKIP.out h1 h2 h3)
                              clear SKIP TAKE HH V8 vv BD RA RW CJ IC BR CI BX hsk h1 h2 h3 CST xr
                              go_wp2_with fail
                              go_roundg (q0 + 1 - (j + 1))
                              case measure => omega
                              case rel => exact ⟨j + 1, by omega, rfl, by go_num, congrArg Value.bool (HT2.out.trans SK.out).symm, hB⟩
                            | false =>
                              have hn := of_decide_eq_false hsk.out.symm
                              have TK := hideD (TAKE.out (by omega))
                              clear SKIP TAKE hsk hn
                              go_upto_region 30 with (fail)
                              go_cut [194] (fun s wx => (∃ b, s = .bool b ∧ Hid (b = decide (0 < cstN l0 j))) ∧ wr = wx)
                              case first =>
                                as_aux_lemma =>
                                  clear TK HH V8 vv BD RA RW CI BX
                                  by_cases j0 : j = 0
                                  · have z : ¬ ((0 : Int) < (j : Int)) := by omega
                                    have CN : cstN l0 j = 0 := by unfold cstN; rw [if_pos j0]
                                    have D0 : Hid (decide (0 < cstN l0 j) = false) := decide_eq_false (by omega)
                                    clear IC BR CJ j0 CN
                                    go_wp2_with fail
                                    go_meet
                                    exact ⟨⟨_, rfl, D0.out.symm⟩, rfl⟩
                                  · have z : (0 : Int) < (j : Int) := by omega
                                    obtain ⟨J, hJ⟩ : ∃ J, j = J + 1 := ⟨j - 1, by omega⟩
                                    have ij' : (j : Int) - 1 = (J : Int) := by omega
                                    have j2 : (0 : Int) ≤ (J : Int) := by omega
                                    have j1 : (J : Int) < (q0 : Int) := by omega
                                    obtain ⟨cb, off, rfl, ai⟩ := IC.out wr BR.out J (by omega)
                                    have CN : Hid (cstN l0 j = max (l0.getD J 0) 0) := by show _ = _; unfold cstN; rw [if_neg j0, hJ]; rfl
                                    generalize l0.getD J 0 = y at *
                                    have HJ := hideD hJ
                                    clear IC BR CJ hJ
                                    by_cases y0 : 0 < y
                                    · have D0 : Hid (decide (0 < cstN l0 j) = true) := decide_eq_true (by have := CN.out; omega)
                                      clear j0
                                      go_wp2_with fail
                                      go_meet
                                      exact ⟨⟨_, rfl, D0.out.symm⟩, rfl⟩
                                    · have D0 : Hid (decide (0 < cstN l0 j) = false) := decide_eq_false (by have := CN.out; omega)
                                      clear j0
                                      go_wp2_with fail
                                      go_meet
                                      exact ⟨⟨_, rfl, D0.out.symm⟩, rfl⟩
                              case rest =>
                                obtain ⟨⟨sk, rfl, hsk⟩, hw⟩ := hcut
                                subst hw
                                go_upto_if 194 with (fail)
                                go_cut [21] (fun s wx => s = .int .i64 (cstN l0 j) ∧ wr = wx)
                                case first =>
                                  as_aux_lemma =>
                                    clear TK HH V8 vv BD RA RW CI BX
                                    cases sk with
                                    | false =>
                                      have hn := of_decide_eq_false hsk.out.symm
                                      have e0 : Hid (cstN l0 j = 0) := by have := CJ.out; show _ = _; omega
                                      clear hsk hn IC BR CJ xr
                                      go_wp2_with fail
                                      go_meet
                                      exact ⟨by rw [e0.out], rfl⟩
                                    | true =>
                                      have hp := of_decide_eq_true hsk.out.symm
                                      have j0 : ¬ j = 0 := fun h => by unfold cstN at hp; rw [if_pos h] at hp; omega
                                      obtain ⟨J, hJ⟩ : ∃ J, j = J + 1 := ⟨j - 1, by omega⟩
                                      have ij' : (j : Int) - 1 = (J : Int) := by omega
                                      have j2 : (0 : Int) ≤ (J : Int) := by omega
                                      have j1 : (J : Int) < (q0 : Int) := by omega
                                      obtain ⟨cb, off, rfl, ai⟩ := IC.out wr BR.out J (by omega)
                                      have CN : cstN l0 j = max (l0.getD J 0) 0 := by unfold cstN; rw [if_neg j0, hJ]; rfl
                                      have CE : Hid (l0.getD J 0 = cstN l0 j) := by show _ = _; rw [CN] at hp ⊢; omega
                                      rw [CE.out] at ai
                                      clear IC BR CJ hJ hsk hp j0 CN
                                      go_wp2_with fail
                                      go_meet
                                      exact ⟨rfl, rfl⟩
                                case rest =>
                                  obtain ⟨rfl, hw⟩ := hcut
                                  subst hw
                                  clear hsk IC BR CST xr
                                  have cj := CJ.out
                                  generalize cstN l0 j = M at *
                                  have w1 : wrap64 (-2 * M) = -2 * M := by unfold wrap64; omega
                                  have w3 : IntKind.i32.wrap (-2 * M) = -2 * M := by rw [IntKind.wrap_i32]; omega
                                  have bx : -536870912 ≤ x ∧ x ≤ 2147483647 := right_bd BX.out
                                  go_upto_region 32 with (fail)
                                  go_cut [210] (fun s wx => (∃ b, s = .bool b ∧ Hid (b = decide (¬ i = j ∧ x < -(2 * M)))) ∧ wr = wx)
                                  case first =>
                                    as_aux_lemma =>
                                      clear TK HH V8 vv BD RA RW CI CJ BX
                                      by_cases ij : i = j
                                      · have e1 : ((i : Int) != (j : Int)) = false := by simp; omega
                                        have D0 : Hid (decide (¬ i = j ∧ x < -(2 * M)) = false) := decide_eq_false (fun h => h.1 ij)
                                        clear ij
                                        go_wp2_with fail
                                        go_meet
                                        exact ⟨⟨_, rfl, D0.out.symm⟩, rfl⟩
                                      · have e1 : ((i : Int) != (j : Int)) = true := by simp; omega
                                        by_cases x1 : x < -2 * M
                                        · have D0 : Hid (decide (¬ i = j ∧ x < -(2 * M)) = true) := decide_eq_true ⟨ij, by omega⟩
                                          clear ij
                                          go_wp2_with fail
                                          go_meet
                                          exact ⟨⟨_, rfl, D0.out.symm⟩, rfl⟩
                                        · have D0 : Hid (decide (¬ i = j ∧ x < -(2 * M)) = false) := decide_eq_false (fun h => x1 (by omega))
                                          clear ij
                                          go_wp2_with fail
                                          go_meet
                                          exact ⟨⟨_, rfl, D0.out.symm⟩, rfl⟩
                                  case rest =>
                                    obtain ⟨⟨sk, rfl, hsk⟩, hw⟩ := hcut
                                    subst hw
                                    go_upto_if 210 with (fail)
                                    go_cut [20] (fun s wx => s = .int .i32 (if ¬ i = j ∧ x < -(2 * M) then -(2 * M) else x) ∧ wr = wx)
                                    case first =>
                                      as_aux_lemma =>
                                        clear TK HH V8 vv BD RA RW CI CJ BX
                                        cases sk with
                                        | true =>
                                          have hp := of_decide_eq_true hsk.out.symm
                                          have HP : Hid ((if ¬ i = j ∧ x < -(2 * M) then -(2 * M) else x) = -2 * M) := (if_pos hp).trans (by omega)
                                          clear hsk hp
                                          go_wp2_with fail
                                          go_meet
                                          exact ⟨by rw [HP.out], rfl⟩
                                        | false =>
                                          have hp := of_decide_eq_false hsk.out.symm
                                          have HP : Hid ((if ¬ i = j ∧ x < -(2 * M) then -(2 * M) else x) = x) := if_neg hp
                                          clear hsk hp
                                          go_wp2_with fail
                                          go_meet
                                          exact ⟨by rw [HP.out], rfl⟩
                                    case rest =>
                                      obtain ⟨rfl, hw⟩ := hcut
                                      subst hw
                                      have XR : Hid (rightB (if ¬ i = j ∧ x < -(2 * M) then -(2 * M) else x) = true) := by
                                        show _ = _
                                        split
                                        · exact decide_eq_true (by omega)
                                        · exact BX.out
                                      have HHij := hideD (fun w' => HH.out _ i j w' XR.out)
                                      have v1 := vv.out.vals i ci
                                      have v2 := vv.out.vals j cj'
                                      have bi := BD.out i
                                      have bj := BD.out j
                                      have W1 : Hid (wrap64 (V0 l1 i - V0 l1 j) = V0 l1 i - V0 l1 j) := by show _ = _; unfold wrap64; omega
                                      have W2 : Hid (IntKind.i64.wrap (V0 l1 i - V0 l1 j) = V0 l1 i - V0 l1 j) := by show _ = _; rw [IntKind.wrap_i64]; omega
                                      generalize hX2 : (if ¬ i = j ∧ x < -(2 * M) then -(2 * M) else x) = X at *
                                      generalize holdsB X (V0 l1 i - V0 l1 j) 2 = hb2 at *
                                      generalize V0 l1 i = vi at *
                                      generalize V0 l1 j = vj at *
                                      have vw1 := W1.out
                                      have vw2 := W2.out
                                      clear hX2 hsk w1 w3 HH V8 vv BD RA RW CI CJ BX XR W1 W2 bi bj bx cj
                                      cases t with
                                      | true =>
                                        have e2 : t2 = hb2 := by have := TK.out; simpa using this
                                        subst e2
                                        clear TK
                                        go_upto_region 34 with (fail)
                                        go_quiet ((go_at_call 74; exact Calls.quiet_of_same (HHij.out _)))
                                        clear v1 v2 vw1 vw2 HHij
                                        go_wp2_with fail
                                        go_roundg (q0 + 1 - (j + 1))
                                        case measure => omega
                                        case rel => exact ⟨j + 1, by omega, rfl, by go_num, congrArg Value.bool HT2.out.symm, below_drewN hB.out _⟩
                                      | false =>
                                        have e2 : t2 = false := by have := TK.out; simpa using this
                                        subst e2
                                        clear TK v1 v2 vw1 vw2 HHij
                                        go_upto_region 34 with (fail)
                                        go_quiet (fail)
                                        go_wp2_with fail
                                        go_roundg (q0 + 1 - (j + 1))
                                        case measure => omega
                                        case rel => exact ⟨j + 1, by omega, rfl, by go_num, congrArg Value.bool HT2.out.symm, below_drewN hB.out _⟩
                        · have cj1 : ¬ ((j : Int) ≤ (q0 : Int)) := by omega
                          have ej : i * (q0 + 1) + j = (i + 1) * (q0 + 1) := by rw [Nat.add_mul, Nat.one_mul]; omega
                          rw [ej]
                          clear ej
                          go_wp2_with fail
                          go_meet
                          exact ⟨rfl, hB⟩
                    case rest =>
                      obtain ⟨rfl, hB⟩ := hcut
                      clear hBo F0
                      go_wp2_with fail
                      go_roundg (q0 + 1 - (i + 1))
                      case measure => omega
                      case rel => exact ⟨i + 1, by omega, rfl, by go_num, rfl, hB⟩
                  · have ci1 : ¬ ((i : Int) ≤ (q0 : Int)) := by omega
                    have ei : i * (q0 + 1) = m := by rw [show i = q0 + 1 by omega]; exact HEnd.out
                    rw [ei]
                    clear ei
                    go_wp2_with fail
                    go_meet
                    exact ⟨rfl, hBo⟩
            case rest =>
              obtain ⟨rfl, hBw⟩ := hcut
              rw [← PT.out]
              clear hcl8 IC CST RW x8
              go_upto_block 8 with (fail)
              go_cut [22] (fun b wx => b = .bool (inA q0 ca (V0 l1) m) ∧ Hid (Below w8.heap.size w8 wx))
              case first =>
                as_aux_lemma =>
                  go_wp2_with fail
                  go_loopg [22, 23] (q0 + 1) (fun g b s w9 => ∃ (i : Nat), i ≤ q0 + 1 ∧ g = q0 + 1 - i ∧ s = .int .i64 (i : Int) ∧ b = .bool (inA q0 ca (V0 l1) (i * (q0 + 1))) ∧ Hid (Below w8.heap.size w8 w9))
                  case atStart => exact ⟨0, by omega, rfl, rfl, by rw [Nat.zero_mul]; rfl, hBw⟩
                  case round =>
                    obtain ⟨i, hi, rfl, rfl, rfl, hBo⟩ := hrel
                    obtain ⟨wo, ho⟩ : ∃ wo, wo = wr := ⟨_, rfl⟩
                    subst ho
                    clear hBw
                    by_cases ci : i ≤ q0
                    · have ci1 : (i : Int) ≤ (q0 : Int) := by omega
                      have F0 : inA q0 ca (V0 l1) (i * (q0 + 1)) = inA q0 ca (V0 l1) (i * (q0 + 1) + 0) := rfl
                      go_upto_block 9 with (fail)
                      go_cut [22] (fun b w9 => b = .bool (inA q0 ca (V0 l1) ((i + 1) * (q0 + 1))) ∧ Hid (Below w8.heap.size w8 w9))
                      case first =>
                        go_wp2_with fail
                        rw [F0]
                        go_loopg [22, 24] (q0 + 1) (fun g b s w9 => ∃ (j : Nat), j ≤ q0 + 1 ∧ g = q0 + 1 - j ∧ s = .int .i64 (j : Int) ∧ b = .bool (inA q0 ca (V0 l1) (i * (q0 + 1) + j)) ∧ Hid (Below w8.heap.size w8 w9))
                        case atStart => exact ⟨0, by omega, rfl, rfl, rfl, hBo⟩
                        case round =>
                          obtain ⟨j, hj, rfl, rfl, rfl, hB⟩ := hrel
                          clear hBo F0
                          by_cases cj : j ≤ q0
                          · have cj1 : (j : Int) ≤ (q0 : Int) := by omega
                            obtain ⟨pl, pd, pm⟩ := HPl.out i j ci cj
                            have A1 := hideD (HMul.out i)
                            have hA : Hid (i * (q0 + 1) + j = i * (q0 + 1) + j) := rfl
                            have s1 : i * (q0 + 1) ≤ 1000000 := by omega
                            have s2 : i * (q0 + 1) + j ≤ 1000000 := by omega
                            have s3 : q0 + 1 ≤ 1000000 := by omega
                            have E1 : Hid (wrap64 ((q0 : Int) + 1) = (q0 : Int) + 1) := wrap_small (k := q0 + 1) s3
                            have E2 : Hid (wrap64 ((i : Int) * ((q0 : Int) + 1)) = ((i * (q0 + 1) : Nat) : Int)) := by show _ = _; rw [A1.out]; exact wrap_small s1
                            have E3 : Hid (wrap64 (((i * (q0 + 1) : Nat) : Int) + (j : Int)) = ((i * (q0 + 1) + j : Nat) : Int)) := wrap_small (k := i * (q0 + 1) + j) s2
                            have D1 : Hid (IntKind.i64.wrap ((q0 : Int) + 1) = (q0 : Int) + 1) := wrap_smallK (k := q0 + 1) s3
                            have D2 : Hid (IntKind.i64.wrap ((i : Int) * ((q0 : Int) + 1)) = ((i * (q0 + 1) : Nat) : Int)) := by show _ = _; rw [A1.out]; exact wrap_smallK s1
                            have D3 : Hid (IntKind.i64.wrap (((i * (q0 + 1) : Nat) : Int) + (j : Int)) = ((i * (q0 + 1) + j : Nat) : Int)) := wrap_smallK (k := i * (q0 + 1) + j) s2
                            have pl1 : ((i * (q0 + 1) + j : Nat) : Int) < (m : Int) := by omega
                            have i0' : (0 : Int) ≤ (i : Int) := by omega
                            have j0' : (0 : Int) ≤ (j : Int) := by omega
                            have i9 : (i : Int) < (q0 : Int) + 1 := by omega
                            have j9 : (j : Int) < (q0 : Int) + 1 := by omega
                            have cc := kc _ _ hB.out (hc8.out _ pl)
                            have HHij := hideD (fun w' => HH.out (ca (i * (q0 + 1) + j)) i j w' (RA.out _))
                            have v1 := kc _ _ hB.out (V8.out.vals i ci)
                            have v2 := kc _ _ hB.out (V8.out.vals j cj)
                            have bi := BD.out i
                            have bj := BD.out j
                            have nx : inA q0 ca (V0 l1) (i * (q0 + 1) + j + 1) = (inA q0 ca (V0 l1) (i * (q0 + 1) + j) && holdsB (ca (i * (q0 + 1) + j)) (V0 l1 ((i * (q0 + 1) + j) / (q0 + 1)) - V0 l1 ((i * (q0 + 1) + j) % (q0 + 1))) 2) := rfl
                            rw [pd, pm] at nx
                            have TK := hideD nx
                            have W1 : Hid (wrap64 (V0 l1 i - V0 l1 j) = V0 l1 i - V0 l1 j) := by show _ = _; unfold wrap64; omega
                            have W2 : Hid (IntKind.i64.wrap (V0 l1 i - V0 l1 j) = V0 l1 i - V0 l1 j) := by show _ = _; rw [IntKind.wrap_i64]; omega
                            generalize hT2 : inA q0 ca (V0 l1) (i * (q0 + 1) + j + 1) = t2 at *
                            have HT2 : Hid (inA q0 ca (V0 l1) (i * (q0 + 1) + (j + 1)) = t2) := hT2
                            generalize inA q0 ca (V0 l1) (i * (q0 + 1) + j) = t at *
                            generalize holdsB (ca (i * (q0 + 1) + j)) (V0 l1 i - V0 l1 j) 2 = hb2 at *
                            generalize ca (i * (q0 + 1) + j) = x at *
                            generalize V0 l1 i = vi at *
                            generalize V0 l1 j = vj at *
                            have vw1 := W1.out
                            have vw2 := W2.out
                            have a1 := E1.out
                            have a2 := E2.out
                            have a3 := E3.out
                            have b1 := D1.out
                            have b2 := D2.out
                            have b3 := D3.out
                            clear hT2 nx E1 E2 E3 D1 D2 D3 HH BD RA bi bj W1 W2 HPl HMul HEnd A1 hA pl pd pm s1 s2 s3 hc8 V8 HV
                            generalize i * (q0 + 1) + j = P at *
                            generalize i * (q0 + 1) = A at *
                            cases t with
                            | true =>
                              have e2 : t2 = hb2 := by have := TK.out; simpa using this
                              subst e2
                              clear TK
                              go_upto_region 42 with (fail)
                              go_quiet ((go_at_call 74; exact Calls.quiet_of_same (HHij.out _)))
                              clear v1 v2 vw1 vw2 HHij a1 a2 a3 b1 b2 b3 cc
                              go_wp2_with fail
                              go_roundg (q0 + 1 - (j + 1))
                              case measure => omega
                              case rel => exact ⟨j + 1, by omega, rfl, by go_num, congrArg Value.bool HT2.out.symm, below_drewN hB.out _⟩
                            | false =>
                              have e2 : t2 = false := by have := TK.out; simpa using this
                              subst e2
                              clear TK v1 v2 vw1 vw2 HHij a1 a2 a3 b1 b2 b3 cc
                              go_upto_region 42 with (fail)
                              go_quiet (fail)
                              go_wp2_with fail
                              go_roundg (q0 + 1 - (j + 1))
                              case measure => omega
                              case rel => exact ⟨j + 1, by omega, rfl, by go_num, congrArg Value.bool HT2.out.symm, below_drewN hB.out _⟩
                          · have cj1 : ¬ ((j : Int) ≤ (q0 : Int)) := by omega
                            have ej : i * (q0 + 1) + j = (i + 1) * (q0 + 1) := by rw [Nat.add_mul, Nat.one_mul]; omega
                            rw [ej]
                            clear ej
                            go_wp2_with fail
                            go_meet
                            exact ⟨rfl, hB⟩
                      case rest =>
                        obtain ⟨rfl, hB⟩ := hcut
                        clear hBo F0
                        go_wp2_with fail
                        go_roundg (q0 + 1 - (i + 1))
                        case measure => omega
                        case rel => exact ⟨i + 1, by omega, rfl, by go_num, rfl, hB⟩
                    · have ci1 : ¬ ((i : Int) ≤ (q0 : Int)) := by omega
                      have ei : i * (q0 + 1) = m := by rw [show i = q0 + 1 by omega]; exact HEnd.out
                      rw [ei]
                      clear ei
                      go_wp2_with fail
                      go_meet
                      exact ⟨rfl, hBo⟩
              case rest =>
                obtain ⟨rfl, hBe⟩ := hcut
                have BE := hideD (beyondD B8.out hBe.out)
                have HVe := hideD (HV.out wc BE.out)
                clear hBe hBw B8 HV BD PT HH V8 hc8 RA HPl HMul HEnd
                generalize inA q0 ca (V0 l1) m = T at *
                go_wp2_with fail
                refine HVe.out.mono ?_
                rintro e w9 ⟨rfl, hb9⟩
                go_wp2_with fail
                go_ret
                exact ⟨by simp, beyondD BE.out hb9⟩
    · have hE := hideD (max_err _ _ _ w1 (lu_err1 (u := .slice d0 q0 p0) Z1.out Q0.out (I0.out w1 B1.out) by0 m0))
      have HV1 := hideD (HV.out w1 B1.out)
      have ne : ¬ mayE N l0 = 0 := m0
      clear HV I0 I1 BD R1 zc
      generalize mayE N l0 = k at *
      go_wp2_with fail
      refine hE.out.mono ?_
      rintro e w2 ⟨rfl, rfl⟩
      clear hE
      go_wp2_with fail
      refine HV1.out.mono ?_
      rintro e w3 ⟨rfl, hb3⟩
      go_wp2_with fail
      go_ret
      exact ⟨rfl, beyondD B1.out hb3⟩
end Go.Proofs.YtfffcmelkdmjaaaDoor
