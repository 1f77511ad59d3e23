/-
  expr.sum, difference, product, answer, joined.
-/
import Derived.Test.YtgidlgmnkjoofaaDoorPg
namespace Go.Proofs.YtgidlgmnkjoofaaDoor
open Go.RowKit
set_option linter.unusedVariables false
/-- What 64 bits can hold. -/
abbrev inR (x : Int) : Prop := -9223372036854775808 ≤ x ∧ x ≤ 9223372036854775807
/-- A number, or that it cannot be held. -/
def holdV (x : Int) : Val := if inR x then (x, false) else (0, true)
abbrev valV (t : Val) : Value := .agg #[.int .i64 t.1, .bool t.2]
theorem w64_in (x : Int) (h : inR x) : wrap64 x = x := by unfold wrap64; unfold inR at h; omega
theorem w64_left (n : Int) : IntKind.i64.wrap n = wrap64 n := by unfold wrap64; exact IntKind.wrap_i64 n
theorem inR_wrap {x : Int} (h : inR x) : IntKind.i64.wrap x = x := by rw [IntKind.wrap_i64]; unfold inR at h; omega
theorem holdV_in {x : Int} (h : inR x) : holdV x = (x, false) := if_pos h
theorem holdV_out {x : Int} (h : ¬ inR x) : holdV x = (0, true) := if_neg h
set_option maxRecDepth 100000 in
theorem sum_any (a b : Int) (ha : inR a) (hb : inR b) (w : World) : Calls Tryd.prog 78 #[.int .i64 a, .int .i64 b] w fun e w' => e = .returned (valV (holdV (a + b))) ∧ Below w.heap.size w w' := by
  have hc : (inR (a + b) ∧ holdV (a + b) = (a + b, false)) ∨ (¬ inR (a + b) ∧ holdV (a + b) = (0, true)) := by
    by_cases c : inR (a + b)
    · exact Or.inl ⟨c, holdV_in c⟩
    · exact Or.inr ⟨c, holdV_out c⟩
  rcases hc with ⟨c, hc⟩ | ⟨c, hc⟩ <;> rw [hc] <;> clear hc <;> unfold inR at ha hb c
  · have e2 : IntKind.i64.wrap (a + b) = a + b := by rw [IntKind.wrap_i64]; omega
    by_cases p : 0 < b
    · have d2 : decide (b < 0) = false := decide_eq_false (by omega)
      have d3 : decide (0 < b) = true := decide_eq_true p
      have e1 : IntKind.i64.wrap (9223372036854775807 - b) = 9223372036854775807 - b := by rw [IntKind.wrap_i64]; omega
      have d1 : decide (9223372036854775807 - b < a) = false := decide_eq_false (by omega)
      clear ha hb c p
      go_enter Tryd.func78, Tryd.ntmps78
      go_wp2_with fail
      all_goals exact bodyPost_ret (by simp [results, Tryd.results78, go_sem]) rfl ⟨rfl, single _ _⟩
    · have d3 : decide (0 < b) = false := decide_eq_false p
      by_cases q : b < 0
      · have d2 : decide (b < 0) = true := decide_eq_true q
        have e1 : IntKind.i64.wrap (-9223372036854775808 - b) = -9223372036854775808 - b := by rw [IntKind.wrap_i64]; omega
        have d1 : decide (a < -9223372036854775808 - b) = false := decide_eq_false (by omega)
        clear ha hb c p q
        go_enter Tryd.func78, Tryd.ntmps78
        go_wp2_with fail
        all_goals exact bodyPost_ret (by simp [results, Tryd.results78, go_sem]) rfl ⟨rfl, single _ _⟩
      · have d2 : decide (b < 0) = false := decide_eq_false q
        clear ha hb c p q
        go_enter Tryd.func78, Tryd.ntmps78
        go_wp2_with fail
        all_goals exact bodyPost_ret (by simp [results, Tryd.results78, go_sem]) rfl ⟨rfl, single _ _⟩
  · by_cases p : 0 < b
    · have d2 : decide (b < 0) = false := decide_eq_false (by omega)
      have d3 : decide (0 < b) = true := decide_eq_true p
      have e1 : IntKind.i64.wrap (9223372036854775807 - b) = 9223372036854775807 - b := by rw [IntKind.wrap_i64]; omega
      have d1 : decide (9223372036854775807 - b < a) = true := decide_eq_true (by omega)
      clear ha hb c p
      go_enter Tryd.func78, Tryd.ntmps78
      go_wp2_with fail
      all_goals exact bodyPost_ret (by simp [results, Tryd.results78, go_sem]) rfl ⟨rfl, single _ _⟩
    · have d3 : decide (0 < b) = false := decide_eq_false p
      have q : b < 0 := by omega
      have d2 : decide (b < 0) = true := decide_eq_true q
      have e1 : IntKind.i64.wrap (-9223372036854775808 - b) = -9223372036854775808 - b := by rw [IntKind.wrap_i64]; omega
      have d1 : decide (a < -9223372036854775808 - b) = true := decide_eq_true (by omega)
      clear ha hb c p q
      go_enter Tryd.func78, Tryd.ntmps78
      go_wp2_with fail
      all_goals exact bodyPost_ret (by simp [results, Tryd.results78, go_sem]) rfl ⟨rfl, single _ _⟩
set_option maxRecDepth 100000 in
theorem diff_any (a b : Int) (ha : inR a) (hb : inR b) (w : World) : Calls Tryd.prog 71 #[.int .i64 a, .int .i64 b] w fun e w' => e = .returned (valV (holdV (a - b))) ∧ Below w.heap.size w w' := by
  have hc : (inR (a - b) ∧ holdV (a - b) = (a - b, false)) ∨ (¬ inR (a - b) ∧ holdV (a - b) = (0, true)) := by
    by_cases c : inR (a - b)
    · exact Or.inl ⟨c, holdV_in c⟩
    · exact Or.inr ⟨c, holdV_out c⟩
  rcases hc with ⟨c, hc⟩ | ⟨c, hc⟩ <;> rw [hc] <;> clear hc <;> unfold inR at ha hb c
  · have e2 : IntKind.i64.wrap (a - b) = a - b := by rw [IntKind.wrap_i64]; omega
    by_cases p : 0 < b
    · have d2 : decide (b < 0) = false := decide_eq_false (by omega)
      have d3 : decide (0 < b) = true := decide_eq_true p
      have e1 : IntKind.i64.wrap (-9223372036854775808 + b) = -9223372036854775808 + b := by rw [IntKind.wrap_i64]; omega
      have d1 : decide (a < -9223372036854775808 + b) = false := decide_eq_false (by omega)
      clear ha hb c p
      go_enter Tryd.func71, Tryd.ntmps71
      go_wp2_with fail
      all_goals exact bodyPost_ret (by simp [results, Tryd.results71, go_sem]) rfl ⟨rfl, single _ _⟩
    · have d3 : decide (0 < b) = false := decide_eq_false p
      by_cases q : b < 0
      · have d2 : decide (b < 0) = true := decide_eq_true q
        have e1 : IntKind.i64.wrap (9223372036854775807 + b) = 9223372036854775807 + b := by rw [IntKind.wrap_i64]; omega
        have d1 : decide (9223372036854775807 + b < a) = false := decide_eq_false (by omega)
        clear ha hb c p q
        go_enter Tryd.func71, Tryd.ntmps71
        go_wp2_with fail
        all_goals exact bodyPost_ret (by simp [results, Tryd.results71, go_sem]) rfl ⟨rfl, single _ _⟩
      · have d2 : decide (b < 0) = false := decide_eq_false q
        clear ha hb c p q
        go_enter Tryd.func71, Tryd.ntmps71
        go_wp2_with fail
        all_goals exact bodyPost_ret (by simp [results, Tryd.results71, go_sem]) rfl ⟨rfl, single _ _⟩
  · by_cases p : 0 < b
    · have d2 : decide (b < 0) = false := decide_eq_false (by omega)
      have d3 : decide (0 < b) = true := decide_eq_true p
      have e1 : IntKind.i64.wrap (-9223372036854775808 + b) = -9223372036854775808 + b := by rw [IntKind.wrap_i64]; omega
      have d1 : decide (a < -9223372036854775808 + b) = true := decide_eq_true (by omega)
      clear ha hb c p
      go_enter Tryd.func71, Tryd.ntmps71
      go_wp2_with fail
      all_goals exact bodyPost_ret (by simp [results, Tryd.results71, go_sem]) rfl ⟨rfl, single _ _⟩
    · have d3 : decide (0 < b) = false := decide_eq_false p
      have q : b < 0 := by omega
      have d2 : decide (b < 0) = true := decide_eq_true q
      have e1 : IntKind.i64.wrap (9223372036854775807 + b) = 9223372036854775807 + b := by rw [IntKind.wrap_i64]; omega
      have d1 : decide (9223372036854775807 + b < a) = true := decide_eq_true (by omega)
      clear ha hb c p q
      go_enter Tryd.func71, Tryd.ntmps71
      go_wp2_with fail
      all_goals exact bodyPost_ret (by simp [results, Tryd.results71, go_sem]) rfl ⟨rfl, single _ _⟩
theorem tdiv_back (a b : Int) (h : b ≠ 0) : (a * b).tdiv b = a := Int.mul_tdiv_cancel a h
/-- A product that went round does not come back by division, but for one. -/
theorem no_back (a b : Int) (ha : inR a) (hb : inR b) (h0 : b ≠ 0) (hc : ¬ inR (a * b)) (h1 : ¬ (b = -1 ∧ a = -9223372036854775808)) : ¬ IntKind.i64.wrap ((IntKind.i64.wrap (a * b)).tdiv b) = a := by
  have hm1 : b = -1 → inR (a * b) ∨ a = -9223372036854775808 := by
    intro e; subst e
    unfold inR at *
    omega
  have hb1 : b ≠ -1 := fun e => (hm1 e).elim hc (fun q => h1 ⟨e, q⟩)
  generalize hP : a * b = p at *
  have hp : ∃ k : Int, IntKind.i64.wrap p = p + k * 18446744073709551616 ∧ k ≠ 0 := by
    rw [IntKind.wrap_i64]
    unfold inR at hc
    refine ⟨((p + 9223372036854775808) % 18446744073709551616 - 9223372036854775808 - p) / 18446744073709551616, ?_, ?_⟩ <;> omega
  obtain ⟨k, hk, k0⟩ := hp
  rw [hk]
  have r1 : inR (p + k * 18446744073709551616) := by
    rw [← hk, IntKind.wrap_i64]
    unfold inR
    omega
  generalize hq : p + k * 18446744073709551616 = q at *
  have dm := Int.mul_tdiv_add_tmod q b
  have ml := Int.tmod_lt_of_pos
  have habs : (q.tmod b).natAbs < b.natAbs := by
    rw [Int.natAbs_tmod]
    exact Nat.mod_lt _ (by omega)
  have tr : inR (q.tdiv b) := by
    have h2 : (q.tdiv b).natAbs = q.natAbs / b.natAbs := Int.natAbs_tdiv q b
    unfold inR at *
    by_cases c1 : b.natAbs = 1
    · have : b = 1 := by omega
      subst this
      rw [Int.tdiv_one]
      exact r1
    · have : q.natAbs / b.natAbs ≤ q.natAbs / 2 := Nat.div_le_div_left (by omega) (by omega)
      omega
  rw [inR_wrap tr]
  intro e
  rw [e] at dm
  have e3 : b * a = p := by rw [Int.mul_comm]; exact hP
  rw [e3] at dm
  unfold inR at *
  omega
set_option maxRecDepth 100000 in
theorem prod_any (a b : Int) (ha : inR a) (hb : inR b) (w : World) : Calls Tryd.prog 79 #[.int .i64 a, .int .i64 b] w fun e w' => e = .returned (valV (holdV (a * b))) ∧ Below w.heap.size w w' := by
  by_cases z : b = 0
  · subst z
    rw [Int.mul_zero, holdV_in (by unfold inR; omega)]
    clear ha hb
    go_enter Tryd.func79, Tryd.ntmps79
    go_wp2_with fail
    all_goals exact bodyPost_ret (by simp [results, Tryd.results79, go_sem]) rfl ⟨rfl, single _ _⟩
  · have z' : (b == 0) = false := by simpa using z
    by_cases m : b = -1
    · subst m
      have em : a * -1 = -a := by omega
      rw [em]
      clear em
      by_cases q : a = -9223372036854775808
      · subst q
        rw [holdV_out (by unfold inR; omega)]
        clear ha hb
        go_enter Tryd.func79, Tryd.ntmps79
        go_wp2_with fail
        all_goals exact bodyPost_ret (by simp [results, Tryd.results79, go_sem]) rfl ⟨rfl, single _ _⟩
      · have q' : (a == -9223372036854775808) = false := by simpa using q
        rw [holdV_in (by unfold inR at *; omega)]
        have e1 : wrap64 (-a) = -a := w64_in _ (by unfold inR at *; omega)
        have e2 : (-a).tdiv (-1) = a := by rw [Int.tdiv_neg, Int.neg_tdiv, Int.tdiv_one]; omega
        have e3 : wrap64 a = a := w64_in _ ha
        clear ha hb
        go_enter Tryd.func79, Tryd.ntmps79
        go_wp2_with fail
        all_goals first | (exact bodyPost_ret (by simp [results, Tryd.results79, go_sem]) rfl ⟨rfl, single _ _⟩) | skip
        all_goals (exfalso; simp_all; done)
    · have m' : (b == -1) = false := by simpa using m
      by_cases c : inR (a * b)
      · rw [holdV_in c]
        have e1 : wrap64 (a * b) = a * b := w64_in _ c
        have e2 : wrap64 ((a * b).tdiv b) = a := by rw [tdiv_back a b z]; exact w64_in _ ha
        have e3 : wrap64 a = a := w64_in _ ha
        clear ha hb c
        go_enter Tryd.func79, Tryd.ntmps79
        go_wp2_with fail
        all_goals exact bodyPost_ret (by simp [results, Tryd.results79, go_sem]) rfl ⟨rfl, single _ _⟩
      · have e2 : ¬ wrap64 ((wrap64 (a * b)).tdiv b) = a := by rw [← w64_left, ← w64_left]; exact no_back a b ha hb z c (fun q => m q.1)
        rw [holdV_out c]
        clear ha hb c
        go_enter Tryd.func79, Tryd.ntmps79
        go_wp2_with fail
        all_goals exact bodyPost_ret (by simp [results, Tryd.results79, go_sem]) rfl ⟨rfl, single _ _⟩
end Go.Proofs.YtgidlgmnkjoofaaDoor
