/-
  DERIVED. GIVEN WITH THE SEED: THE CARDS: each row of YtfhfdpapppgfpaaGreatDoorRows.lean that lists a variable, with what it lists TIED to the program's text (the seventh form; the later family's looks); each row that meets fmt, with fmt's text TOLD by the authors' own Lean function (tested against real Go, not proved from fmt's source: count such statements apart). THE CARD IS WHAT COUNTS. Prove the row's statement (the work); the ties are given (YtfhfdpapppgfpaaGreatDoorTie.lean); close each card by the builder's one call (the guide's Derived/Test/ToyasCard.lean, 'card_holds'). Laid BY PROGRAM, IN A SANDBOX (cutbox-door.mjs). By AI agents, Wed Nov 11 2026. No macro, syntax, notation, axiom, sorry.
-/
import Derived.Test.YtfhfdpapppgfpaaGreatDoorRows
import GoSem.ClaimSeven
namespace Go.Proofs.YtfhfdpapppgfpaaGreatDoor
namespace Rows

/-- THE TIED CARD OF 'gnomonlaw04.OpsSets'. -/
def opsSetsCard : Claim7 := { stood := { row := opsSetsRow, standIns := [], harness := (true, "ff133c8c791837d2dbe45eb968646fa95048b2158d4e7e01fb0e7ba3a3c7fb3d"), looks := false }, kinds := [], alts := [], laidByText := true, laidKinds := [.data, .data, .data], laidTests := true, laidLooks := .later }
def OpsSetsCardSaid : Prop := Claim7.holds Tryz.pinned (.plain (OpenSpec.ofChange opsSetsSpec)) opsSetsCard

/-- THE SECOND FORM's CARD OF 'gnomonlaw04.OpsSets'. -/
def opsSetsUptoCard : Claim7 := { stood := { row := opsSetsUptoRow, standIns := [], harness := (true, "ff133c8c791837d2dbe45eb968646fa95048b2158d4e7e01fb0e7ba3a3c7fb3d"), looks := false }, kinds := [], alts := [], laidByText := true, laidKinds := [.data, .data, .data], laidTests := true, laidLooks := .later }
def OpsSetsUptoCardSaid : Prop := Claim7.holds Tryz.pinned (.plain (OpenSpec.upto opsSetsSpec)) opsSetsUptoCard
end Rows
end Go.Proofs.YtfhfdpapppgfpaaGreatDoor
