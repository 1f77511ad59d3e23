/-
  DERIVED. GIVEN WITH THE SEED: THE CARDS: each row of YtdkolgndebkloaaGreatDoorRows.lean that lists a variable, with what it lists TIED to the program's text (the seventh form; the later family's looks); each row that meets fmt, with fmt's text TOLD by the authors' own Lean function (tested against real Go, not proved from fmt's source: count such statements apart). THE CARD IS WHAT COUNTS. Prove the row's statement (the work); the ties are given (YtdkolgndebkloaaGreatDoorTie.lean); close each card by the builder's one call (the guide's Derived/Test/ToyasCard.lean, 'card_holds'). Laid BY PROGRAM, IN A SANDBOX (cutbox-door.mjs). By AI agents, Wed Nov 11 2026. No macro, syntax, notation, axiom, sorry.
-/
import Derived.Test.YtdkolgndebkloaaGreatDoorRows
import GoSem.ClaimSeven
namespace Go.Proofs.YtdkolgndebkloaaGreatDoor
namespace Rows

/-- THE TIED CARD OF 'gnomonlaw03.DbmTexts'. -/
def dbmTextsCard : Claim7 := { stood := { row := dbmTextsRow, standIns := [], harness := (true, "3ffeed0aad323b4b9247062824b69faa7a7d11225fbf3087c52cf3d62ac48255"), looks := true }, kinds := [], alts := [], laidByText := true, laidKinds := [.data, .data, .data, .sentinel, .sentinel], laidTests := true, laidLooks := .later }
def DbmTextsCardSaid : Prop := Claim7.holds Tryz.pinned (.plain (OpenSpec.ofChange dbmTextsSpec)) dbmTextsCard

/-- THE SECOND FORM's CARD OF 'gnomonlaw03.DbmTexts'. -/
def dbmTextsUptoCard : Claim7 := { stood := { row := dbmTextsUptoRow, standIns := [], harness := (true, "3ffeed0aad323b4b9247062824b69faa7a7d11225fbf3087c52cf3d62ac48255"), looks := true }, kinds := [], alts := [], laidByText := true, laidKinds := [.data, .data, .data, .sentinel, .sentinel], laidTests := true, laidLooks := .later }
def DbmTextsUptoCardSaid : Prop := Claim7.holds Tryz.pinned (.plain (OpenSpec.upto dbmTextsSpec)) dbmTextsUptoCard
end Rows
end Go.Proofs.YtdkolgndebkloaaGreatDoor
