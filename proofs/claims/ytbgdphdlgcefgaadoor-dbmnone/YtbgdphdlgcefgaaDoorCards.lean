/-
  DERIVED. GIVEN WITH THE SEED: THE CARDS: each row of YtbgdphdlgcefgaaDoorRows.lean that lists a variable, with what it lists TIED to the program's text (the seventh form; the later family's looks); each row that meets fmt, with fmt's text TOLD by the authors' own Lean function (tested against real Go, not proved from fmt's source: count such statements apart). THE CARD IS WHAT COUNTS. Prove the row's statement (the work); the ties are given (YtbgdphdlgcefgaaDoorTie.lean); close each card by the builder's one call (the guide's Derived/Test/ToyasCard.lean, 'card_holds'). Laid BY PROGRAM, IN A SANDBOX (cutbox-door.mjs). By AI agents, Wed Nov 11 2026. No macro, syntax, notation, axiom, sorry.
-/
import Derived.Test.YtbgdphdlgcefgaaDoorRows
import GoSem.ClaimSeven
namespace Go.Proofs.YtbgdphdlgcefgaaDoor
namespace Rows

/-- THE TIED CARD OF 'gnomonlaw03.DbmNone'. -/
def dbmNoneCard : Claim7 := { stood := { row := dbmNoneRow, standIns := [], harness := (true, "d7a1b620cc201180f45a27833151a9ad4c435f5b397d475bd75a89810a99eab2"), looks := false }, kinds := [], alts := [], laidByText := true, laidKinds := [.data, .data, .data], laidTests := true, laidLooks := .later }
def DbmNoneCardSaid : Prop := Claim7.holds Tryd.pinned (.plain (OpenSpec.ofChange dbmNoneSpec)) dbmNoneCard

/-- THE TIED CARD OF 'gnomonlaw04.OpsNone'. -/
def opsNoneCard : Claim7 := { stood := { row := opsNoneRow, standIns := [], harness := (true, "d7a1b620cc201180f45a27833151a9ad4c435f5b397d475bd75a89810a99eab2"), looks := false }, kinds := [], alts := [], laidByText := true, laidKinds := [.data, .data, .data], laidTests := true, laidLooks := .later }
def OpsNoneCardSaid : Prop := Claim7.holds Tryd.pinned (.plain (OpenSpec.ofChange opsNoneSpec)) opsNoneCard

/-- THE SECOND FORM's CARD OF 'gnomonlaw03.DbmNone'. -/
def dbmNoneUptoCard : Claim7 := { stood := { row := dbmNoneUptoRow, standIns := [], harness := (true, "d7a1b620cc201180f45a27833151a9ad4c435f5b397d475bd75a89810a99eab2"), looks := false }, kinds := [], alts := [], laidByText := true, laidKinds := [.data, .data, .data], laidTests := true, laidLooks := .later }
def DbmNoneUptoCardSaid : Prop := Claim7.holds Tryd.pinned (.plain (OpenSpec.upto dbmNoneSpec)) dbmNoneUptoCard

/-- THE SECOND FORM's CARD OF 'gnomonlaw04.OpsNone'. -/
def opsNoneUptoCard : Claim7 := { stood := { row := opsNoneUptoRow, standIns := [], harness := (true, "d7a1b620cc201180f45a27833151a9ad4c435f5b397d475bd75a89810a99eab2"), looks := false }, kinds := [], alts := [], laidByText := true, laidKinds := [.data, .data, .data], laidTests := true, laidLooks := .later }
def OpsNoneUptoCardSaid : Prop := Claim7.holds Tryd.pinned (.plain (OpenSpec.upto opsNoneSpec)) opsNoneUptoCard
end Rows
end Go.Proofs.YtbgdphdlgcefgaaDoor
