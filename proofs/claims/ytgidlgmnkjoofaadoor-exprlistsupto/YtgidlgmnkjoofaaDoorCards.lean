/-
  DERIVED. GIVEN WITH THE SEED: THE CARDS: each row of YtgidlgmnkjoofaaDoorRows.lean that lists a variable, with what it lists TIED to the program's text (the seventh form; the later family's looks); each row that meets fmt, with fmt's text TOLD by the authors' own Lean function (tested against real Go, not proved from fmt's source: count such statements apart). THE CARD IS WHAT COUNTS. Prove the row's statement (the work); the ties are given (YtgidlgmnkjoofaaDoorTie.lean); close each card by the builder's one call (the guide's Derived/Test/ToyasCard.lean, 'card_holds'). Laid BY PROGRAM, IN A SANDBOX (cutbox-door.mjs). By AI agents, Wed Nov 11 2026. No macro, syntax, notation, axiom, sorry.
-/
import Derived.Test.YtgidlgmnkjoofaaDoorRows
import GoSem.ClaimSeven
namespace Go.Proofs.YtgidlgmnkjoofaaDoor
namespace Rows

/-- THE TIED CARD OF 'gnomonlaw08.ExprLists'. -/
def exprListsCard : Claim7 := { stood := { row := exprListsRow, standIns := [], harness := (true, "482a8c903fd0a0aff9d81f31ba843616b4b5c88bd88f3f2abb95be779695ee43"), looks := false }, kinds := [], alts := [], laidByText := true, laidKinds := [.data, .data, .data, .data], laidTests := true, laidLooks := .later }
def ExprListsCardSaid : Prop := Claim7.holds Tryd.pinned (.plain (OpenSpec.ofChange exprListsSpec)) exprListsCard

/-- THE SECOND FORM's CARD OF 'gnomonlaw08.ExprLists'. -/
def exprListsUptoCard : Claim7 := { stood := { row := exprListsUptoRow, standIns := [], harness := (true, "482a8c903fd0a0aff9d81f31ba843616b4b5c88bd88f3f2abb95be779695ee43"), looks := false }, kinds := [], alts := [], laidByText := true, laidKinds := [.data, .data, .data, .data], laidTests := true, laidLooks := .later }
def ExprListsUptoCardSaid : Prop := Claim7.holds Tryd.pinned (.plain (OpenSpec.upto exprListsSpec)) exprListsUptoCard
end Rows
end Go.Proofs.YtgidlgmnkjoofaaDoor
