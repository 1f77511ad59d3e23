/-
  The walk of the statement OpsTime.
-/
import Derived.Test.YtfhfdpapppgfpaaGreatDoorZf
namespace Go.Proofs.YtfhfdpapppgfpaaGreatDoor
open Go.RowKit
set_option linter.unusedVariables false
set_option maxRecDepth 100000
theorem wf_cells {l : List Int} (wf : ∀ z ∈ l, (Lit.int .i32 z).wf = true) : ∀ j, j < l.length → -2147483648 ≤ l.getD j 0 ∧ l.getD j 0 ≤ 2147483647 := fun j hj => by
  have e : l.getD j 0 = l[j] := by simp [List.getD, hj]
  rw [e]
  exact bounds_i32 (wf _ (List.getElem_mem hj))
end Go.Proofs.YtfhfdpapppgfpaaGreatDoor
