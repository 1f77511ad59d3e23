/-
  The walk of the statement OpsCells.
-/
import Derived.Test.YtnfkmpickmonoaaGreatQ30
namespace Go.Proofs.YtnfkmpickmonoaaGreat
open Go.RowKit
set_option linter.unusedVariables false
set_option maxRecDepth 100000
theorem ops_of {w' : World} {B n m : Nat} {e : Ending} {M : Mat} {l : Row} (hm : m = (n + 1) * (n + 1)) (h : OpsOut w' B n e M) (hr : rowsL n M (n + 1) = listOf l m) (hl : ∀ k, rightB (l k) = true) : ZoneOut w' B n e (zoneR n (drf n m (listOf l m))) := by
  have ha : allRight (listOf l m) m = true := allRight_of _ _ fun j hj => by rw [listOf_get _ _ _ hj]; exact hl j
  unfold OpsOut at h
  rw [hr, ← hm, ha] at h
  rcases h with ⟨h, -⟩ | ⟨-, h⟩
  · cases h
  · exact h
end Go.Proofs.YtnfkmpickmonoaaGreat
