/-
  The document's And.
-/
import Derived.Test.YtfhfdpapppgfpaaGreatDoorWyz
namespace Go.Proofs.YtfhfdpapppgfpaaGreatDoor
open Go.RowKit
set_option linter.unusedVariables false
set_option maxRecDepth 100000
/-- The first K cells as strict as another zone's. -/
def inK (n : Nat) (s : Mat) : Nat → Mat → Mat
  | 0, r => r
  | K + 1, r => lessM (inK n s K r) (K / (n + 1)) (K % (n + 1)) (s (K / (n + 1)) (K % (n + 1)))
def mmK (n m : Nat) (zm : Nat → Mat) : Nat → Mat → Mat
  | 0, r => r
  | K + 1, r => inK n (zm K) m (mmK n m zm K r)
end Go.Proofs.YtfhfdpapppgfpaaGreatDoor
