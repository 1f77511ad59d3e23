/-
  DERIVED. GIVEN WITH THE SEED: THE CARDS: each row of YtmnhbokiibaopaaDoorRows.lean that lists a variable, with what it lists TIED to the program's text (the seventh form; the later family's looks); each row that meets fmt, with fmt's text TOLD by the authors' own Lean function (tested against real Go, not proved from fmt's source: count such statements apart). THE CARD IS WHAT COUNTS. Prove the row's statement (the work); the ties are given (YtmnhbokiibaopaaDoorTie.lean); close each card by the builder's one call (the guide's Derived/Test/ToyasCard.lean, 'card_holds'). Laid BY PROGRAM, IN A SANDBOX (cutbox-door.mjs). By AI agents, Wed Nov 11 2026. No macro, syntax, notation, axiom, sorry.
-/
import Derived.Test.YtmnhbokiibaopaaDoorRows
import GoSem.ClaimSeven
namespace Go.Proofs.YtmnhbokiibaopaaDoor
namespace Rows

/-- THE TIED CARD OF 'gnomonlaw08.ExprRights'. -/
def exprRightsCard : Claim7 := { stood := { row := exprRightsRow, standIns := [], harness := (true, "cd73641812ed8bf6042d04d28a4899602c9b62ce58daff5b21d92bc8878f5b08"), looks := false }, kinds := [], alts := [], laidByText := true, laidKinds := [.data, .data, .data, .data], laidTests := true, laidLooks := .later }
def ExprRightsCardSaid : Prop := Claim7.holds Tryd.pinned (.plain (OpenSpec.ofChange exprRightsSpec)) exprRightsCard

/-- THE TIED CARD OF 'gnomonlaw08.ExprValues'. -/
def exprValuesCard : Claim7 := { stood := { row := exprValuesRow, standIns := [], harness := (true, "cd73641812ed8bf6042d04d28a4899602c9b62ce58daff5b21d92bc8878f5b08"), looks := false }, kinds := [], alts := [], laidByText := true, laidKinds := [.data, .data, .data, .data], laidTests := true, laidLooks := .later }
def ExprValuesCardSaid : Prop := Claim7.holds Tryd.pinned (.plain (OpenSpec.ofChange exprValuesSpec)) exprValuesCard

/-- THE TIED CARD OF 'gnomonlaw08.ExprLists'. -/
def exprListsCard : Claim7 := { stood := { row := exprListsRow, standIns := [], harness := (true, "cd73641812ed8bf6042d04d28a4899602c9b62ce58daff5b21d92bc8878f5b08"), looks := false }, kinds := [], alts := [], laidByText := true, laidKinds := [.data, .data, .data, .data], laidTests := true, laidLooks := .later }
def ExprListsCardSaid : Prop := Claim7.holds Tryd.pinned (.plain (OpenSpec.ofChange exprListsSpec)) exprListsCard

/-- THE TIED CARD OF 'gnomonlaw08.ExprTexts'. -/
def exprTextsCard : Claim7 := { stood := { row := exprTextsRow, standIns := [], harness := (true, "cd73641812ed8bf6042d04d28a4899602c9b62ce58daff5b21d92bc8878f5b08"), looks := false }, kinds := [], alts := [], laidByText := true, laidKinds := [.data, .data, .data, .data], laidTests := true, laidLooks := .later }
def ExprTextsCardSaid : Prop := Claim7.holds Tryd.pinned (.plain (OpenSpec.ofChange exprTextsSpec)) exprTextsCard

/-- THE TIED CARD OF 'gnomonlaw08.ExprSames'. -/
def exprSamesCard : Claim7 := { stood := { row := exprSamesRow, standIns := [], harness := (true, "cd73641812ed8bf6042d04d28a4899602c9b62ce58daff5b21d92bc8878f5b08"), looks := false }, kinds := [], alts := [], laidByText := true, laidKinds := [.data, .data, .data, .data], laidTests := true, laidLooks := .later }
def ExprSamesCardSaid : Prop := Claim7.holds Tryd.pinned (.plain (OpenSpec.ofChange exprSamesSpec)) exprSamesCard

/-- THE TIED CARD OF 'gnomonlaw08.ExprUnlike'. -/
def exprUnlikeCard : Claim7 := { stood := { row := exprUnlikeRow, standIns := [], harness := (true, "cd73641812ed8bf6042d04d28a4899602c9b62ce58daff5b21d92bc8878f5b08"), looks := false }, kinds := [], alts := [], laidByText := true, laidKinds := [.data, .data, .data, .data], laidTests := true, laidLooks := .later }
def ExprUnlikeCardSaid : Prop := Claim7.holds Tryd.pinned (.plain (OpenSpec.ofChange exprUnlikeSpec)) exprUnlikeCard

/-- THE SECOND FORM's CARD OF 'gnomonlaw08.ExprRights'. -/
def exprRightsUptoCard : Claim7 := { stood := { row := exprRightsUptoRow, standIns := [], harness := (true, "cd73641812ed8bf6042d04d28a4899602c9b62ce58daff5b21d92bc8878f5b08"), looks := false }, kinds := [], alts := [], laidByText := true, laidKinds := [.data, .data, .data, .data], laidTests := true, laidLooks := .later }
def ExprRightsUptoCardSaid : Prop := Claim7.holds Tryd.pinned (.plain (OpenSpec.upto exprRightsSpec)) exprRightsUptoCard

/-- THE SECOND FORM's CARD OF 'gnomonlaw08.ExprValues'. -/
def exprValuesUptoCard : Claim7 := { stood := { row := exprValuesUptoRow, standIns := [], harness := (true, "cd73641812ed8bf6042d04d28a4899602c9b62ce58daff5b21d92bc8878f5b08"), looks := false }, kinds := [], alts := [], laidByText := true, laidKinds := [.data, .data, .data, .data], laidTests := true, laidLooks := .later }
def ExprValuesUptoCardSaid : Prop := Claim7.holds Tryd.pinned (.plain (OpenSpec.upto exprValuesSpec)) exprValuesUptoCard

/-- THE SECOND FORM's CARD OF 'gnomonlaw08.ExprLists'. -/
def exprListsUptoCard : Claim7 := { stood := { row := exprListsUptoRow, standIns := [], harness := (true, "cd73641812ed8bf6042d04d28a4899602c9b62ce58daff5b21d92bc8878f5b08"), looks := false }, kinds := [], alts := [], laidByText := true, laidKinds := [.data, .data, .data, .data], laidTests := true, laidLooks := .later }
def ExprListsUptoCardSaid : Prop := Claim7.holds Tryd.pinned (.plain (OpenSpec.upto exprListsSpec)) exprListsUptoCard

/-- THE SECOND FORM's CARD OF 'gnomonlaw08.ExprTexts'. -/
def exprTextsUptoCard : Claim7 := { stood := { row := exprTextsUptoRow, standIns := [], harness := (true, "cd73641812ed8bf6042d04d28a4899602c9b62ce58daff5b21d92bc8878f5b08"), looks := false }, kinds := [], alts := [], laidByText := true, laidKinds := [.data, .data, .data, .data], laidTests := true, laidLooks := .later }
def ExprTextsUptoCardSaid : Prop := Claim7.holds Tryd.pinned (.plain (OpenSpec.upto exprTextsSpec)) exprTextsUptoCard

/-- THE SECOND FORM's CARD OF 'gnomonlaw08.ExprSames'. -/
def exprSamesUptoCard : Claim7 := { stood := { row := exprSamesUptoRow, standIns := [], harness := (true, "cd73641812ed8bf6042d04d28a4899602c9b62ce58daff5b21d92bc8878f5b08"), looks := false }, kinds := [], alts := [], laidByText := true, laidKinds := [.data, .data, .data, .data], laidTests := true, laidLooks := .later }
def ExprSamesUptoCardSaid : Prop := Claim7.holds Tryd.pinned (.plain (OpenSpec.upto exprSamesSpec)) exprSamesUptoCard

/-- THE SECOND FORM's CARD OF 'gnomonlaw08.ExprUnlike'. -/
def exprUnlikeUptoCard : Claim7 := { stood := { row := exprUnlikeUptoRow, standIns := [], harness := (true, "cd73641812ed8bf6042d04d28a4899602c9b62ce58daff5b21d92bc8878f5b08"), looks := false }, kinds := [], alts := [], laidByText := true, laidKinds := [.data, .data, .data, .data], laidTests := true, laidLooks := .later }
def ExprUnlikeUptoCardSaid : Prop := Claim7.holds Tryd.pinned (.plain (OpenSpec.upto exprUnlikeSpec)) exprUnlikeUptoCard
end Rows
end Go.Proofs.YtmnhbokiibaopaaDoor
