/-
  What becomes of zones by both ways, in numbers: the cells of a zone, Up, Down.
-/
import Derived.Test.YtjanibholjimkaaQ19
import Derived.Test.YtjanibholjimkaaQ20
namespace Go.Proofs.Ytjanibholjimkaa
open Go.RowKit
set_option linter.unusedVariables false
/-- The closed form behind a zone's cells. -/
structure FullC (n m : Nat) (p : Mat) (c : Row) : Prop where
  cl : Cl n p
  low : ∀ j, j ≤ n → p 0 j ≤ 1
  nar : narAll n p m = true
  cells : c = cellsUpto n p m
theorem FullC.ok {n m : Nat} {p : Mat} {c : Row} (h : FullC n m p c) (hm : m = (n + 1) * (n + 1)) {i j : Nat} (hi : i ≤ n) (hj : j ≤ n) : narOk (p i j) = true := by
  have := narAll_at h.nar (i * (n + 1) + j) (by rw [hm]; exact pos_lt hi hj)
  rwa [flat_at n p i j hj] at this
theorem FullC.at {n m : Nat} {p : Mat} {c : Row} (h : FullC n m p c) (hm : m = (n + 1) * (n + 1)) {i j : Nat} (hi : i ≤ n) (hj : j ≤ n) : c (i * (n + 1) + j) = narB (p i j) := by
  rw [h.cells]
  unfold cellsUpto
  rw [if_pos (by rw [hm]; exact pos_lt hi hj), flat_at n p i j hj]
theorem narOk_cases {q : Int} (h : narOk q = true) : (q = opn ∧ narB q = 2147483647) ∨ (¬ q = opn ∧ narB q = q ∧ -536870912 ≤ q ∧ q ≤ 536870913) := by
  by_cases e : q = opn
  · exact .inl ⟨e, by unfold narB; rw [if_pos e]⟩
  · have h' : ¬ (q < -536870912 ∨ 536870913 < q) := by unfold narOk at h; simpa [e] using h
    exact .inr ⟨e, by unfold narB; rw [if_neg e, if_neg h'], by omega, by omega⟩
theorem FullC.le {n m : Nat} {p : Mat} {c : Row} (h : FullC n m p c) {i j : Nat} (hi : i ≤ n) (hj : j ≤ n) : p i j ≤ startV i j := by
  unfold startV
  have ho := opn_val
  split
  · have f := h.cl.fin i j hi hj
    unfold Fin' at f
    omega
  · by_cases i0 : i = 0
    · subst i0
      exact h.low j hj
    · obtain rfl : i = j := by omega
      have := h.cl.one i hi
      omega
theorem FullC.fin {n m : Nat} {p : Mat} {c : Row} (h : FullC n m p c) (hm : m = (n + 1) * (n + 1)) {i j : Nat} (hi : i ≤ n) (hj : j ≤ n) : Fin' 536870913 (p i j) := by
  rcases narOk_cases (h.ok hm hi hj) with ⟨h1, h2⟩ | ⟨h1, h2, h3, h4⟩
  · exact .inl h1
  · exact .inr ⟨by omega, by omega⟩
/-- The program's draft, closed in. -/
theorem pm_at (n m : Nat) (M : Mat) (hm : m = (n + 1) * (n + 1)) {i j : Nat} (hi : i ≤ n) (hj : j ≤ n) : drf n m (rowsL n M (n + 1)) i j = tgV (startV i j) (M i j) := by
  rw [drf_at n m _ hm i j hi hj, rowsL, listOf_get _ _ _ (pos_lt hi hj), flat_at n M i j hj]
def RightM (n : Nat) (M : Mat) : Prop := ∀ i j, i ≤ n → j ≤ n → M i j = 2147483647 ∨ (-536870912 ≤ M i j ∧ M i j ≤ 536870913)
theorem right_rows {n m : Nat} {M : Mat} (hm : m = (n + 1) * (n + 1)) (h : RightM n M) : RightL m (rowsL n M (n + 1)) := fun k hk => by
  rw [rowsL, listOf_get _ _ _ (by rw [← hm]; exact hk)]
  unfold flat
  rw [hm] at hk
  exact h _ _ (by have := Nat.div_lt_of_lt_mul hk; omega) (by have := Nat.mod_lt k (show 0 < n + 1 by omega); omega)
theorem allRight_rows {n m : Nat} {M : Mat} (hm : m = (n + 1) * (n + 1)) (h : RightM n M) : allRight (rowsL n M (n + 1)) m = true := by
  have : ∀ k, k ≤ m → allRight (rowsL n M (n + 1)) k = true := by
    intro k
    induction k with
    | zero => intro _; rfl
    | succ k ih =>
      intro hk
      simp only [allRight, ih (by omega), Bool.true_and]
      exact decide_eq_true (right_rows hm h k (by omega))
  exact this m (Nat.le_refl _)
theorem FullC.rightM {n m : Nat} {p : Mat} {c : Row} (h : FullC n m p c) (hm : m = (n + 1) * (n + 1)) : RightM n (oR n c m) := fun i j hi hj => by
  have e : oR n c m i j = narB (p i j) := by unfold oR; rw [if_pos ⟨hj, by rw [hm]; exact pos_lt hi hj⟩, h.at hm hi hj]
  rw [e]
  rcases narOk_cases (h.ok hm hi hj) with ⟨h1, h2⟩ | ⟨h1, h2, h3, h4⟩
  · exact .inl h2
  · exact .inr (by rw [h2]; omega)
theorem FullC.oR {n m : Nat} {p : Mat} {c : Row} (h : FullC n m p c) (hm : m = (n + 1) * (n + 1)) {i j : Nat} (hi : i ≤ n) (hj : j ≤ n) : Go.Proofs.Ytjanibholjimkaa.oR n c m i j = narB (p i j) := by
  unfold Go.Proofs.Ytjanibholjimkaa.oR
  rw [if_pos ⟨hj, by rw [hm]; exact pos_lt hi hj⟩, h.at hm hi hj]
theorem FullC.pm {n m : Nat} {p : Mat} {c : Row} (h : FullC n m p c) (hm : m = (n + 1) * (n + 1)) {i j : Nat} (hi : i ≤ n) (hj : j ≤ n) : tgV (startV i j) (Go.Proofs.Ytjanibholjimkaa.oR n c m i j) = p i j := by
  rw [h.oR hm hi hj]
  exact tgV_narr (by unfold startV; split; exact .inl rfl; exact .inr rfl) (h.le hi hj) (h.ok hm hi hj)
theorem FullC.zero {n m : Nat} {p : Mat} {c : Row} (h : FullC n m p c) (hm : m = (n + 1) * (n + 1)) : c 0 = 1 := by
  have := h.at hm (i := 0) (j := 0) (by omega) (by omega)
  rw [h.cl.one 0 (by omega), show narB 1 = 1 by decide] at this
  simpa using this
/-! ### Up -/
/-! ### Down -/
end Go.Proofs.Ytjanibholjimkaa
