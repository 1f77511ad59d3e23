/-
  Slices that were handed in, and rows of one's own (a seat without the document's answer).
-/
import Derived.Test.YtdceldpcankcaaaDl
import Derived.Deep.OwnRows
import Derived.Deep.RegionLaw
import Derived.OpenShut
namespace Go.Proofs.Ytdceldpcankcaaa
open Go.RowKit
set_option linter.unusedVariables false
set_option maxRecDepth 100000
theorem own_form {w : World} {base K : Nat} {E : TypeId} {v : Value} {xs : List Value} (h : w.ownsRow base E 1 v (K + 1) xs) : ∃ g cap, v = .slice (some ⟨g, 0, none⟩) (K + 1) cap := by
  rcases h.2 with ⟨_, h0⟩ | ⟨g, cap, cur, hv, _⟩
  · omega
  · exact ⟨g, cap, hv⟩
/-- A slice that was handed in reads as these bounds. -/
def SliceAt (w : World) (v : Value) (l : List Int) : Prop := (∃ ad c, v = .slice ad 0 c ∧ l = []) ∨ (∃ b off cap, v = .slice (some ⟨b, off, none⟩) l.length cap ∧ ∀ j, j < l.length → w.cell? ⟨b, off + j, none⟩ = some (.int .i32 (l.getD j 0)))
end Go.Proofs.Ytdceldpcankcaaa
