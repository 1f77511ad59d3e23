/-
  Which zone a matrix makes hangs on the closed matrices below it alone.
-/
import Derived.Test.YtjanibholjimkaaQ16
import Derived.Test.YtjanibholjimkaaQ15
import Derived.Test.YtjanibholjimkaaQ18
namespace Go.Proofs.Ytjanibholjimkaa
open Go.RowKit
set_option linter.unusedVariables false
/-- A closed matrix. -/
structure Cl (n : Nat) (q : Mat) : Prop where
  fin : FinM n 144115188075855872 q
  one : One n q
  tri : Tri n (n + 1) q
def Le (n : Nat) (q r : Mat) : Prop := ∀ i j, i ≤ n → j ≤ n → q i j ≤ r i j
/-- A matrix that may be closed. -/
structure Ok (n : Nat) (r : Mat) : Prop where
  fin : FinM n (Kb 0) r
  diag : ∀ i, i ≤ n → r i i ≤ 1
theorem Rounds.cl {n : Nat} {r p : Mat} (hn : n ≤ 8) (h : Rounds n (n + 1) r p) : Cl n p := ⟨fin_mono h.fin (Kb_bd (n + 1) (by omega)).2, h.one, h.tri⟩
theorem one_of {n : Nat} {q r : Mat} (hq : Cl n q) (hr : Ok n r) (h : Le n q r) : One n r := fun i hi => by
  have := hq.one i hi
  have := h i i hi hi
  have := hr.diag i hi
  omega
/-- The greatest closed matrix below. -/
theorem close_above {n : Nat} {q r : Mat} (hn : n ≤ 8) (hq : Cl n q) (hr : Ok n r) (h : Le n q r) : ∃ p, closeR n r = some p ∧ Le n q p := by
  have o := one_of hq hr h
  obtain ⟨p, hp, hl⟩ := rounds_above hn hr.fin o hq.fin hq.one hq.tri h (n + 1) (Nat.le_refl _)
  refine ⟨p, ?_, hl⟩
  unfold closeR
  rw [o.ok]
  exact hp
theorem narAll_congr {n : Nat} {p q : Mat} (h : ∀ i j, i ≤ n → j ≤ n → p i j = q i j) : ∀ m, m ≤ (n + 1) * (n + 1) → narAll n p m = narAll n q m
  | 0, _ => rfl
  | m + 1, hm => by
    have d1 : m / (n + 1) ≤ n := by have := Nat.div_lt_of_lt_mul (show m < (n + 1) * (n + 1) by omega); omega
    have d2 : m % (n + 1) ≤ n := by have := Nat.mod_lt m (show 0 < n + 1 by omega); omega
    simp only [narAll, narAll_congr h m (by omega), flat, h _ _ d1 d2]
theorem cellsUpto_congr {n : Nat} {p q : Mat} (h : ∀ i j, i ≤ n → j ≤ n → p i j = q i j) (m : Nat) (hm : m ≤ (n + 1) * (n + 1)) : cellsUpto n p m = cellsUpto n q m := by
  funext k
  unfold cellsUpto
  split
  · rename_i hk
    have d1 : k / (n + 1) ≤ n := by have := Nat.div_lt_of_lt_mul (show k < (n + 1) * (n + 1) by omega); omega
    have d2 : k % (n + 1) ≤ n := by have := Nat.mod_lt k (show 0 < n + 1 by omega); omega
    simp only [flat, h _ _ d1 d2]
  · rfl
theorem tgV_narr {s q : Int} (hs : s = opn ∨ s = 1) (le : q ≤ s) (ok : narOk q = true) : tgV s (narB q) = q := by
  have ho := opn_val
  by_cases e : q = opn
  · have : narB q = 2147483647 := by unfold narB; rw [if_pos e]
    rw [this]
    unfold tgV
    rw [if_pos rfl]
    omega
  · have h' : ¬ (q < -536870912 ∨ 536870913 < q) := by unfold narOk at ok; simpa [e] using ok
    have : narB q = q := by unfold narB; rw [if_neg e, if_neg h']
    rw [this]
    unfold tgV
    rw [if_neg (by omega)]
    omega
theorem drf_ok (n m : Nat) (l : List Int) (hm : m = (n + 1) * (n + 1)) (hr : RightL m l) : Ok n (drf n m l) := ⟨drf_fin n m l hm hr, drf_diag n m l hm hr⟩
end Go.Proofs.Ytjanibholjimkaa
