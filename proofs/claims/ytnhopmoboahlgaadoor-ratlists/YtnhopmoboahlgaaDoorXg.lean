/-
  The contracts of the document's held, New and Of, for all numbers.
-/
import Derived.Test.YtnhopmoboahlgaaDoorXf
import Derived.Test.YtnhopmoboahlgaaDoorVe
namespace Go.Proofs.YtnhopmoboahlgaaDoor
open Go.RowKit Go.Shelf
set_option linter.unusedVariables false
theorem hR_no {N D : Int} {g : Bool} (h : canHold N D g = false) : hR N D g = (0, 0, 20) := by simp [hR, heldN, heldD, heldE, h]
theorem hR_yes {N D : Int} {g : Bool} (h : canHold N D g = true) : hR N D g = (sgn N g, D, 0) := by simp [hR, heldN, heldD, heldE, h, sgn]
theorem xheld_any (g : Bool) (P Q : Int) (w : World) (hP : U128 P) (hQ : U128 Q) (q : 0 < Q) :
    Calls Tryd.prog 38 #[.bool g, wv P, wv Q] w fun e w' => e = .returned (trip (hR (P / gcdI P Q) (Q / gcdI P Q) g)) ∧ Below w.heap.size w w' := by
  have G0 := gcdI_pos P Q hP.1 q
  have G1 := gcdI_le_right P Q q
  have hG : U128 (gcdI P Q) := ⟨by omega, by have := hQ.2; omega⟩
  obtain ⟨n0, n1⟩ := quo_bd P (gcdI P Q) hP.1 G0
  obtain ⟨m0, m1⟩ := quo_bd Q (gcdI P Q) hQ.1 G0
  have hC : ∀ w, Calls Tryd.prog 42 #[wv P, wv Q] w fun e w' => e = .returned (wv (gcdI P Q)) ∧ Below w.heap.size w w' := fun w => xcommon_any P Q w hP hQ
  have hD1 : ∀ w, Calls Tryd.prog 65 #[wv P, wv (gcdI P Q)] w fun e w' => e = .returned (.tuple #[wv (P / gcdI P Q), wv (P % gcdI P Q)]) ∧ Below w.heap.size w w' := fun w => xdivide_any P _ w hP hG G0
  have hD2 : ∀ w, Calls Tryd.prog 65 #[wv Q, wv (gcdI P Q)] w fun e w' => e = .returned (.tuple #[wv (Q / gcdI P Q), wv (Q % gcdI P Q)]) ∧ Below w.heap.size w w' := fun w => xdivide_any Q _ w hQ hG G0
  have hq : ¬ hiW Q = 0 ∨ ¬ loW Q = 0 := by
    have := hilo Q
    omega
  have un : U128 (P / gcdI P Q) := ⟨n0, by have := hP.2; omega⟩
  have ud : U128 (Q / gcdI P Q) := ⟨m0, by have := hQ.2; omega⟩
  clear hP hQ q G0 G1 hG n1 m1
  generalize P / gcdI P Q = N at *
  generalize Q / gcdI P Q = D at *
  generalize P % gcdI P Q = X at *
  generalize Q % gcdI P Q = Y at *
  generalize gcdI P Q = G at *
  have hN := hilo N
  have lN := lo_bd N
  have hD := hilo D
  have lD := lo_bd D
  have kN := hi_bd un
  have kD := hi_bd ud
  unfold wv at *
  by_cases c1 : hiW N = 0
  · by_cases c2 : mostOf g < loW N
    · have h : canHold N D g = false := by
        have : ¬ N ≤ mostOf g := by omega
        simp [canHold, this]
      rw [hR_no h]
      rw [c1] at hD1
      cases g
      · rcases hq with hq | hq
        · exact xheld_h_false_f2 _ _ _ _ _ _ _ _ _ _ _ _ _ w hq c2 hC hD1 hD2
        · exact xheld_l_false_f2 _ _ _ _ _ _ _ _ _ _ _ _ _ w hq c2 hC hD1 hD2
      · rcases hq with hq | hq
        · exact xheld_h_true_f2 _ _ _ _ _ _ _ _ _ _ _ _ _ w hq c2 hC hD1 hD2
        · exact xheld_l_true_f2 _ _ _ _ _ _ _ _ _ _ _ _ _ w hq c2 hC hD1 hD2
    · by_cases c3 : hiW D = 0
      · by_cases c4 : 9223372036854775807 < loW D
        · have h : canHold N D g = false := by
            have : ¬ D ≤ 9223372036854775807 := by omega
            simp [canHold, this]
          rw [hR_no h]
          rw [c1] at hD1
          rw [c3] at hD2
          cases g
          · rcases hq with hq | hq
            · exact xheld_h_false_f4 _ _ _ _ _ _ _ _ _ _ _ _ w hq c2 c4 hC hD1 hD2
            · exact xheld_l_false_f4 _ _ _ _ _ _ _ _ _ _ _ _ w hq c2 c4 hC hD1 hD2
          · rcases hq with hq | hq
            · exact xheld_h_true_f4 _ _ _ _ _ _ _ _ _ _ _ _ w hq c2 c4 hC hD1 hD2
            · exact xheld_l_true_f4 _ _ _ _ _ _ _ _ _ _ _ _ w hq c2 c4 hC hD1 hD2
        · have eN : N = loW N := by omega
          have eD : D = loW D := by omega
          have h : canHold N D g = true := by
            have h1 : N ≤ mostOf g := by omega
            have h2 : D ≤ 9223372036854775807 := by omega
            simp [canHold, h1, h2]
          have er : hR N D g = (sgn (loW N) g, loW D, 0) := by rw [hR_yes h, ← eN, ← eD]
          rw [er]
          rw [c1] at hD1
          rw [c3] at hD2
          have z1 : IntKind.i64.wrap (loW D) = loW D := by rw [IntKind.wrap_i64]; omega
          cases g
          · have c2' : ¬ 9223372036854775807 < loW N := c2
            have z2 : IntKind.i64.wrap (loW N) = sgn (loW N) false := by show _ = loW N; rw [IntKind.wrap_i64]; omega
            rcases hq with hq | hq
            · exact xheld_h_false_ok _ _ _ _ _ _ _ _ _ _ _ _ w hq _ c2 c4 z1 z2 hC hD1 hD2
            · exact xheld_l_false_ok _ _ _ _ _ _ _ _ _ _ _ _ w hq _ c2 c4 z1 z2 hC hD1 hD2
          · have c2' : ¬ 9223372036854775808 < loW N := c2
            have z2 : IntKind.i64.wrap (IntKind.u64.wrap (-loW N)) = sgn (loW N) true := by show _ = -loW N; rw [IntKind.wrap_i64, IntKind.wrap_u64]; omega
            rcases hq with hq | hq
            · exact xheld_h_true_ok _ _ _ _ _ _ _ _ _ _ _ _ w hq _ c2 c4 z1 z2 hC hD1 hD2
            · exact xheld_l_true_ok _ _ _ _ _ _ _ _ _ _ _ _ w hq _ c2 c4 z1 z2 hC hD1 hD2
      · have h : canHold N D g = false := by
          have : ¬ D ≤ 9223372036854775807 := by omega
          simp [canHold, this]
        rw [hR_no h]
        rw [c1] at hD1
        cases g
        · rcases hq with hq | hq
          · exact xheld_h_false_f3 _ _ _ _ _ _ _ _ _ _ _ _ _ w hq c2 c3 hC hD1 hD2
          · exact xheld_l_false_f3 _ _ _ _ _ _ _ _ _ _ _ _ _ w hq c2 c3 hC hD1 hD2
        · rcases hq with hq | hq
          · exact xheld_h_true_f3 _ _ _ _ _ _ _ _ _ _ _ _ _ w hq c2 c3 hC hD1 hD2
          · exact xheld_l_true_f3 _ _ _ _ _ _ _ _ _ _ _ _ _ w hq c2 c3 hC hD1 hD2
  · have h : canHold N D g = false := by
      have : ¬ N ≤ mostOf g := by unfold mostOf; split <;> omega
      simp [canHold, this]
    rw [hR_no h]
    cases g
    · rcases hq with hq | hq
      · exact xheld_h_false_f1 _ _ _ _ _ _ _ _ _ _ _ _ _ _ w hq c1 hC hD1 hD2
      · exact xheld_l_false_f1 _ _ _ _ _ _ _ _ _ _ _ _ _ _ w hq c1 hC hD1 hD2
    · rcases hq with hq | hq
      · exact xheld_h_true_f1 _ _ _ _ _ _ _ _ _ _ _ _ _ _ w hq c1 hC hD1 hD2
      · exact xheld_l_true_f1 _ _ _ _ _ _ _ _ _ _ _ _ _ _ w hq c1 hC hD1 hD2
/-- By a sign and sizes: the fraction in lowest terms. -/
theorem hR_can (P Q : Int) (g : Bool) (p : 0 ≤ P) (q : 0 < Q) : hR (P / gcdI P Q) (Q / gcdI P Q) g = canR (sgn P g) Q := by
  unfold canR
  rw [sz_sgn P g p]
  by_cases z : P = 0
  · subst z
    have : (0 : Int) / gcdI 0 Q = 0 := by simp
    rw [this]
    exact hR_zero _ _ _
  · have : decide (sgn P g < 0) = g := by
      unfold sgn
      cases g <;> simp <;> omega
    rw [this]
theorem xheld_can (g : Bool) (P Q : Int) (w : World) (hP : U128 P) (hQ : U128 Q) (q : 0 < Q) :
    Calls Tryd.prog 38 #[.bool g, wv P, wv Q] w fun e w' => e = .returned (trip (canR (sgn P g) Q)) ∧ Below w.heap.size w w' := by
  rw [← hR_can P Q g hP.1 q]
  exact xheld_any g P Q w hP hQ q
theorem xof_any (n : Int) (w : World) : Calls Tryd.prog 11 #[.int .i64 n] w fun e w' => e = .returned (rv n 1) ∧ Below w.heap.size w w' := by
  go_enter Tryd.func11, Tryd.ntmps11
  go_wp2
  refine bodyPost_ret (v := rv n 1) (by simp [results, Tryd.results11, go_sem]) rfl ⟨rfl, ?_⟩
  first | exact single _ _ | exact set2 (single _ _) (Nat.le_refl _) _ _
theorem xnew_raw (n d a b : Int) (g h : Bool) (t : Int × Int × Int) (w : World) (hg : decide (n < 0) = g) (hh : decide (d < 0) = h)
    (HA : Hid (∀ w, Calls Tryd.prog 39 #[.int .i64 n] w fun e w' => e = .returned (.int .u64 a) ∧ w' = w))
    (HB : Hid (∀ w, Calls Tryd.prog 39 #[.int .i64 d] w fun e w' => e = .returned (.int .u64 b) ∧ w' = w))
    (HH : Hid (∀ w, Calls Tryd.prog 38 #[.bool (g != h), .agg #[.int .u64 0, .int .u64 a], .agg #[.int .u64 0, .int .u64 b]] w fun e w' => e = .returned (trip t) ∧ Below w.heap.size w w')) :
    Calls Tryd.prog 8 #[.int .i64 n, .int .i64 d] w fun e w' => e = .returned (trip t) ∧ Below w.heap.size w w' := by
  obtain ⟨x, y, z⟩ := t
  go_enter Tryd.func8, Tryd.ntmps8
  go_wp2_with fail
  refine (HA.out _).mono ?_
  rintro e w1 ⟨rfl, rfl⟩
  go_wp2_with fail
  refine (HB.out _).mono ?_
  rintro e w1 ⟨rfl, rfl⟩
  go_wp2_with fail
  refine (HH.out _).mono ?_
  rintro e w2 ⟨rfl, hb⟩
  have s0 := kc ⟨w.heap.size, 0, none⟩ (.int .i64 0) hb (by first | assumption | simp [go_sem, *])
  have s1 := kc ⟨w.heap.size, 1, none⟩ (.int .i64 0) hb (by first | assumption | simp [go_sem, *])
  have s2 := kf ⟨w.heap.size, 0, none⟩ (.int .i64 0) hb (by first | assumption | simp [go_sem, *]) (by first | assumption | simp [go_sem, *])
  have s3 := kf ⟨w.heap.size, 1, none⟩ (.int .i64 0) hb (by first | assumption | simp [go_sem, *]) (by first | assumption | simp [go_sem, *])
  have hB := beyond (single w _) hb
  clear hb
  go_wp2_with fail
  refine bodyPost_ret (v := trip (x, y, z)) (by simp [results, Tryd.results8, go_sem, *]) rfl ⟨rfl, ?_⟩
  first | exact set2 hB (Nat.le_refl _) _ _ | exact hB
theorem xnew_any (n d : Int) (w : World) (hn : I64 n) (hd : I64 d) :
    Calls Tryd.prog 8 #[.int .i64 n, .int .i64 d] w fun e w' => e = .returned (trip (newT n d)) ∧ Below w.heap.size w w' := by
  have s1 := sz_bd n hn.1 hn.2
  have s2 := sz_bd d hd.1 hd.2
  refine xnew_raw n d (sz n) (sz d) _ _ _ w rfl rfl (fun w => xsize_any n w hn.1 hn.2) (fun w => xsize_any d w hd.1 hd.2) ?_
  show ∀ w, _
  intro w
  by_cases z : d = 0
  · subst z
    have e1 : sz 0 = 0 := by decide
    have e2 : newT n 0 = (0, 0, 21) := by simp [newT]
    rw [e1, e2]
    exact xheld_zero _ _ _ w
  · have p : 0 < sz d := by unfold sz; split <;> omega
    have h := xheld_can (decide (n < 0) != decide (d < 0)) (sz n) (sz d) w ⟨s1.1, by omega⟩ ⟨by omega, by omega⟩ p
    unfold wv at h
    rw [hi_small s1.1 (by omega), lo_small s1.1 (by omega), hi_small s2.1 (by omega), lo_small s2.1 (by omega)] at h
    have e : newT n d = canR (sgn (sz n) (decide (n < 0) != decide (d < 0))) (sz d) := by
      unfold newT
      rw [if_neg z]
      congr 1
      unfold sgn sz
      by_cases c : n < 0 <;> by_cases k : d < 0 <;> simp [c, k]
    rw [e]
    exact h
end Go.Proofs.YtnhopmoboahlgaaDoor
