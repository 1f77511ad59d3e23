/-
  The contract of 'both' for every number and every row of bounds, and the walk of the statement DbmCells.
-/
import Derived.Test.YtfamdajjfpjlaaaDoorEj
import Derived.OpenShut
namespace Go.Proofs.YtfamdajjfpjlaaaDoor
open Go.RowKit
set_option linter.unusedVariables false
set_option maxRecDepth 100000
/-- A slice that was handed in reads as these bounds. -/
def SliceAt (w : World) (v : Value) (l : List Int) : Prop := (∃ ad c, v = .slice ad 0 c ∧ l = []) ∨ (∃ b off cap, v = .slice (some ⟨b, off, none⟩) l.length cap ∧ ∀ j, j < l.length → w.cell? ⟨b, off + j, none⟩ = some (.int .i32 (l.getD j 0)))
/-- Cells that a zone can have. -/
def Made (n : Nat) (c : Row) : Prop := ∃ r : Mat, (∀ i, i ≤ n → r i i ≤ 1) ∧ zoneR n r = some c
def BothOut (w' : World) (B : Nat) (n : Int) (x : Ending) : Prop :=
  x = .returned (.tuple #[.pointer none, .pointer none, .bool true]) ∨
  ∃ (N : Nat) (c : Row) (b r : Nat), n = N ∧ N ≤ 8 ∧ x = .returned (.tuple #[.pointer (some ⟨b, 0, none⟩), .pointer (some ⟨r, 0, none⟩), .bool true]) ∧ B ≤ b ∧ ZoneAt w' b N c ∧ RZone w' B r N (listOf c ((N + 1) * (N + 1))) ∧ Made N c
end Go.Proofs.YtfamdajjfpjlaaaDoor
