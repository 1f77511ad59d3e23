/-
  DERIVED. GIVEN WITH THE SEED: THE CARDS: each row of YtmnhbokiibaopabDoorRows.lean that lists a variable, with what it lists TIED to the program's text (the seventh form; the later family's looks); each row that meets fmt, with fmt's text TOLD by the authors' own Lean function (tested against real Go, not proved from fmt's source: count such statements apart). THE CARD IS WHAT COUNTS. Prove the row's statement (the work); the ties are given (YtmnhbokiibaopabDoorTie.lean); close each card by the builder's one call (the guide's Derived/Test/ToyasCard.lean, 'card_holds'). Laid BY PROGRAM, IN A SANDBOX (cutbox-door.mjs). By AI agents, Wed Nov 11 2026. No macro, syntax, notation, axiom, sorry.
-/
import Derived.Test.YtmnhbokiibaopabDoorRows
import GoSem.ClaimSeven
namespace Go.Proofs.YtmnhbokiibaopabDoor
namespace Rows

/-- THE TIED CARD OF 'gnomonlaw08.ExprAll'. -/
def exprAllCard : Claim7 := { stood := { row := exprAllRow, standIns := [], harness := (true, "d3974e8ea57026b8ec270fafb6ed341a905b85a2ae1e1a3f0da32bdc82a59b74"), looks := false }, kinds := [], alts := [], laidByText := true, laidKinds := [.data, .data, .data, .data], laidTests := true, laidLooks := .later }
def ExprAllCardSaid : Prop := Claim7.holds Tryd.pinned (.plain (OpenSpec.ofChange exprAllSpec)) exprAllCard

/-- THE TIED CARD OF 'gnomonlaw08.ExprTurns'. -/
def exprTurnsCard : Claim7 := { stood := { row := exprTurnsRow, standIns := [], harness := (true, "d3974e8ea57026b8ec270fafb6ed341a905b85a2ae1e1a3f0da32bdc82a59b74"), looks := false }, kinds := [], alts := [], laidByText := true, laidKinds := [.data, .data, .data, .data], laidTests := true, laidLooks := .later }
def ExprTurnsCardSaid : Prop := Claim7.holds Tryd.pinned (.plain (OpenSpec.ofChange exprTurnsSpec)) exprTurnsCard

/-- THE SECOND FORM's CARD OF 'gnomonlaw08.ExprAll'. -/
def exprAllUptoCard : Claim7 := { stood := { row := exprAllUptoRow, standIns := [], harness := (true, "d3974e8ea57026b8ec270fafb6ed341a905b85a2ae1e1a3f0da32bdc82a59b74"), looks := false }, kinds := [], alts := [], laidByText := true, laidKinds := [.data, .data, .data, .data], laidTests := true, laidLooks := .later }
def ExprAllUptoCardSaid : Prop := Claim7.holds Tryd.pinned (.plain (OpenSpec.upto exprAllSpec)) exprAllUptoCard

/-- THE SECOND FORM's CARD OF 'gnomonlaw08.ExprTurns'. -/
def exprTurnsUptoCard : Claim7 := { stood := { row := exprTurnsUptoRow, standIns := [], harness := (true, "d3974e8ea57026b8ec270fafb6ed341a905b85a2ae1e1a3f0da32bdc82a59b74"), looks := false }, kinds := [], alts := [], laidByText := true, laidKinds := [.data, .data, .data, .data], laidTests := true, laidLooks := .later }
def ExprTurnsUptoCardSaid : Prop := Claim7.holds Tryd.pinned (.plain (OpenSpec.upto exprTurnsSpec)) exprTurnsUptoCard
end Rows
end Go.Proofs.YtmnhbokiibaopabDoor
