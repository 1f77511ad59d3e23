/-
  What must be whatever is asked (live of the statements of ops).
-/
import Derived.Test.YtnfkmpickmonoaaQ23
namespace Go.Proofs.Ytnfkmpickmonoaa
open Go.RowKit
set_option linter.unusedVariables false
set_option maxRecDepth 100000
theorem narB_32 (x : Int) : -2147483648 ≤ narB x ∧ narB x ≤ 2147483647 := by
  unfold narB
  split
  · omega
  · split <;> omega
theorem zoneR_32 {n : Nat} {r : Mat} {c : Row} (h : zoneR n r = some c) : C32 c := by
  intro k
  unfold zoneR at h
  split at h
  · injection h with h
    subst h
    show -2147483648 ≤ (0 : Int) ∧ (0 : Int) ≤ 2147483647
    omega
  · split at h
    · injection h with h
      subst h
      show -2147483648 ≤ cellsUpto _ _ _ k ∧ cellsUpto _ _ _ k ≤ 2147483647
      unfold cellsUpto
      split
      · exact narB_32 _
      · omega
    · cases h
end Go.Proofs.Ytnfkmpickmonoaa
