/-
  The walk of the statement RatOrders.
-/
import Derived.Test.YtnhopmoboahlgaaDoorVk
namespace Go.Proofs.YtnhopmoboahlgaaDoor
open Go.RowKit Go.Shelf
set_option linter.unusedVariables false
abbrev AskX (n d : Int) (r : Bool) : Prop := ∀ w, Calls Tryd.prog 13 #[rv n d] w fun e w' => e = .returned (.bool r) ∧ Below w.heap.size w w'
abbrev AskC (an ad bn bd c : Int) : Prop := ∀ w, Calls Tryd.prog 22 #[rv an ad, rv bn bd] w fun e w' => e = .returned (.int .i64 c) ∧ Below w.heap.size w w'
theorem cmp_cases (an ad bn bd : Int) : (cmpV an ad bn bd = -1 ∧ cmpV bn bd an ad = 1 ∧ an * bd < bn * ad) ∨ (cmpV an ad bn bd = 0 ∧ cmpV bn bd an ad = 0 ∧ an * bd = bn * ad) ∨ (cmpV an ad bn bd = 1 ∧ cmpV bn bd an ad = -1 ∧ bn * ad < an * bd) := by
  unfold cmpV
  rcases Int.lt_trichotomy (an * bd) (bn * ad) with h | h | h
  · left
    rw [if_pos h, if_neg (by omega), if_pos h]
    exact ⟨rfl, rfl, h⟩
  · right; left
    rw [if_neg (by omega), if_neg (by omega), if_neg (by omega), if_neg (by omega)]
    exact ⟨rfl, rfl, h⟩
  · right; right
    rw [if_neg (by omega), if_pos h, if_pos h]
    exact ⟨rfl, rfl, h⟩
theorem one_of {an ad bn bd : Int} (ra : rightR an ad = true) (rb : rightR bn bd = true) (ha : I64 an) (hb : I64 ad) (hc : I64 bn) (hd : I64 bd) (e : an * bd = bn * ad) : an = bn ∧ ad = bd := by
  obtain ⟨d0, -⟩ := right_iff.1 ra
  obtain ⟨e0, -⟩ := right_iff.1 rb
  have h1 := can_right (P := an) (Q := ad) d0 ra ha.1 ha.2 hb.2 rfl
  have h2 := can_right (P := bn) (Q := bd) e0 rb hc.1 hc.2 hd.2 rfl
  rw [can_congr d0 e0 e, h2] at h1
  simp at h1
  exact ⟨h1.1.symm, h1.2.symm⟩
theorem lt_step {an ad bn bd cn cd : Int} (d0 : 0 < ad) (e0 : 0 < bd) (f0 : 0 < cd) (h1 : an * bd < bn * ad) (h2 : bn * cd ≤ cn * bd) : an * cd < cn * ad := by
  have k1 : an * bd * cd < bn * ad * cd := Int.mul_lt_mul_of_pos_right h1 f0
  have k2 : bn * cd * ad ≤ cn * bd * ad := Int.mul_le_mul_of_nonneg_right h2 (Int.le_of_lt d0)
  have e1 : an * bd * cd = an * cd * bd := by ac_rfl
  have e2 : bn * ad * cd = bn * cd * ad := by ac_rfl
  have e3 : cn * bd * ad = cn * ad * bd := by ac_rfl
  have k3 : an * cd * bd < cn * ad * bd := by omega
  exact Int.lt_of_mul_lt_mul_right k3 (Int.le_of_lt e0)
end Go.Proofs.YtnhopmoboahlgaaDoor
