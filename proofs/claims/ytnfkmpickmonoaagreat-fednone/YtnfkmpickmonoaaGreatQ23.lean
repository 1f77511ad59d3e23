/-
  What cells of zones are; what both say of zones.
-/
import Derived.Test.YtnfkmpickmonoaaGreatQ16
import Derived.Test.YtnfkmpickmonoaaGreatQ22
import Derived.OpenShut
namespace Go.Proofs.YtnfkmpickmonoaaGreat
open Go.RowKit
set_option linter.unusedVariables false
set_option maxRecDepth 100000
theorem narB_right (x : Int) : rightB (narB x) = true := by
  unfold narB rightB
  split
  · simp
  · split
    · simp
    · simp; omega
def minR (c d : Row) : Row := fun j => min (c j) (d j)
theorem allRight_of (l : List Int) (m : Nat) (h : ∀ j, j < m → rightB (l.getD j 0) = true) : allRight l m = true := by
  induction m with
  | zero => rfl
  | succ m ih => simp only [allRight, ih (fun j hj => h j (by omega)), h m (by omega), Bool.and_self]
/-! ### Equal -/
/-! ### Includes -/
end Go.Proofs.YtnfkmpickmonoaaGreat
