/-
  Zones are their valuations: the numbers keep the cells that were handed in just if they keep the closed ones, and it is not empty; and the zone of closed cells is that zone.
-/
import Derived.Test.YtjanibholjimkaaQ13
import Derived.Test.YtjanibholjimkaaQ11
import Derived.Test.YtjanibholjimkaaQ6
import Derived.Deep.QuietTactic
import Derived.BigQuiet
namespace Go.Proofs.Ytjanibholjimkaa
open Go.RowKit
set_option linter.unusedVariables false
set_option maxRecDepth 100000
theorem start_at (n i j : Nat) (hi : i ≤ n) (hj : j ≤ n) : startR n (n + 1) 0 i j = startV i j := by
  unfold startR
  rw [if_pos (by omega)]
/-- The cells that were handed in, as a draft. -/
abbrev drf (n m : Nat) (l : List Int) : Mat := tgAll n l m (startR n (n + 1) 0)
theorem drf_at (n m : Nat) (l : List Int) (hm : m = (n + 1) * (n + 1)) (i j : Nat) (hi : i ≤ n) (hj : j ≤ n) : drf n m l i j = tgV (startV i j) (l.getD (i * (n + 1) + j) 0) := by
  unfold drf
  rw [tgAll_at _ _ _ _ (by omega), if_pos ⟨hi, hj, by rw [hm]; exact pos_lt hi hj⟩, start_at n i j hi hj]
def RightL (m : Nat) (l : List Int) : Prop := ∀ k, k < m → l.getD k 0 = 2147483647 ∨ (-536870912 ≤ l.getD k 0 ∧ l.getD k 0 ≤ 536870913)
theorem startV_fin (i j : Nat) : Fin' (Kb 0) (startV i j) := by
  unfold startV Fin'
  split
  · exact .inl rfl
  · exact .inr (by decide)
theorem drf_fin (n m : Nat) (l : List Int) (hm : m = (n + 1) * (n + 1)) (hr : RightL m l) : FinM n (Kb 0) (drf n m l) := by
  intro i j hi hj
  rw [drf_at n m l hm i j hi hj]
  have h1 := startV_fin i j
  have h2 := hr (i * (n + 1) + j) (by rw [hm]; exact pos_lt hi hj)
  have ho := opn_val
  have hk : Kb 0 = 1073741824 := rfl
  unfold tgV Fin' at *
  rw [hk] at h1 ⊢
  split
  · exact h1
  · omega
theorem drf_diag (n m : Nat) (l : List Int) (hm : m = (n + 1) * (n + 1)) (hr : RightL m l) (i : Nat) (hi : i ≤ n) : drf n m l i i ≤ 1 := by
  rw [drf_at n m l hm i i hi hi]
  have : startV i i = 1 := by unfold startV; rw [if_neg (by omega)]
  rw [this]
  unfold tgV
  split <;> omega
theorem narAll_at {n : Nat} {p : Mat} {m : Nat} (h : narAll n p m = true) (k : Nat) (hk : k < m) : narOk (flat n p k) = true := by
  induction m with
  | zero => omega
  | succ m ih =>
    simp only [narAll, Bool.and_eq_true] at h
    by_cases e : k = m
    · subst e; exact h.2
    · exact ih h.1 (by omega)
theorem flat_at (n : Nat) (p : Mat) (i j : Nat) (hj : j ≤ n) : flat n p (i * (n + 1) + j) = p i j := by
  unfold flat
  rw [Nat.add_comm, Nat.add_mul_div_right _ _ (by omega), Nat.div_eq_of_lt (by omega), Nat.zero_add, Nat.add_mul_mod_self_right, Nat.mod_eq_of_lt (by omega)]
end Go.Proofs.Ytjanibholjimkaa
