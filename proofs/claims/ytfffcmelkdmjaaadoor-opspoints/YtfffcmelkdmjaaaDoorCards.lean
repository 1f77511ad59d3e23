/-
  DERIVED. GIVEN WITH THE SEED: THE CARDS: each row of YtfffcmelkdmjaaaDoorRows.lean that lists a variable, with what it lists TIED to the program's text (the seventh form; the later family's looks); each row that meets fmt, with fmt's text TOLD by the authors' own Lean function (tested against real Go, not proved from fmt's source: count such statements apart). THE CARD IS WHAT COUNTS. Prove the row's statement (the work); the ties are given (YtfffcmelkdmjaaaDoorTie.lean); close each card by the builder's one call (the guide's Derived/Test/ToyasCard.lean, 'card_holds'). Laid BY PROGRAM, IN A SANDBOX (cutbox-door.mjs). By AI agents, Wed Nov 11 2026. No macro, syntax, notation, axiom, sorry.
-/
import Derived.Test.YtfffcmelkdmjaaaDoorRows
import GoSem.ClaimSeven
namespace Go.Proofs.YtfffcmelkdmjaaaDoor
namespace Rows

/-- THE TIED CARD OF 'gnomonlaw04.OpsTime'. -/
def opsTimeCard : Claim7 := { stood := { row := opsTimeRow, standIns := [], harness := (true, "2874c3d6163ac05604451298aa96bd884e105deb39d93031898cbbc8d4fecb9d"), looks := false }, kinds := [], alts := [], laidByText := true, laidKinds := [.data, .data, .data], laidTests := true, laidLooks := .later }
def OpsTimeCardSaid : Prop := Claim7.holds Tryd.pinned (.plain (OpenSpec.ofChange opsTimeSpec)) opsTimeCard

/-- THE TIED CARD OF 'gnomonlaw04.OpsLimits'. -/
def opsLimitsCard : Claim7 := { stood := { row := opsLimitsRow, standIns := [], harness := (true, "2874c3d6163ac05604451298aa96bd884e105deb39d93031898cbbc8d4fecb9d"), looks := false }, kinds := [], alts := [], laidByText := true, laidKinds := [.data, .data, .data], laidTests := true, laidLooks := .later }
def OpsLimitsCardSaid : Prop := Claim7.holds Tryd.pinned (.plain (OpenSpec.ofChange opsLimitsSpec)) opsLimitsCard

/-- THE TIED CARD OF 'gnomonlaw04.OpsGuards'. -/
def opsGuardsCard : Claim7 := { stood := { row := opsGuardsRow, standIns := [], harness := (true, "2874c3d6163ac05604451298aa96bd884e105deb39d93031898cbbc8d4fecb9d"), looks := false }, kinds := [], alts := [], laidByText := true, laidKinds := [.data, .data, .data], laidTests := true, laidLooks := .later }
def OpsGuardsCardSaid : Prop := Claim7.holds Tryd.pinned (.plain (OpenSpec.ofChange opsGuardsSpec)) opsGuardsCard

/-- THE TIED CARD OF 'gnomonlaw04.OpsJoins'. -/
def opsJoinsCard : Claim7 := { stood := { row := opsJoinsRow, standIns := [], harness := (true, "2874c3d6163ac05604451298aa96bd884e105deb39d93031898cbbc8d4fecb9d"), looks := false }, kinds := [], alts := [], laidByText := true, laidKinds := [.data, .data, .data], laidTests := true, laidLooks := .later }
def OpsJoinsCardSaid : Prop := Claim7.holds Tryd.pinned (.plain (OpenSpec.ofChange opsJoinsSpec)) opsJoinsCard

/-- THE TIED CARD OF 'gnomonlaw04.OpsPoints'. -/
def opsPointsCard : Claim7 := { stood := { row := opsPointsRow, standIns := [], harness := (true, "2874c3d6163ac05604451298aa96bd884e105deb39d93031898cbbc8d4fecb9d"), looks := false }, kinds := [], alts := [], laidByText := true, laidKinds := [.data, .data, .data], laidTests := true, laidLooks := .later }
def OpsPointsCardSaid : Prop := Claim7.holds Tryd.pinned (.plain (OpenSpec.ofChange opsPointsSpec)) opsPointsCard

/-- THE TIED CARD OF 'gnomonlaw04.OpsTwice'. -/
def opsTwiceCard : Claim7 := { stood := { row := opsTwiceRow, standIns := [], harness := (true, "2874c3d6163ac05604451298aa96bd884e105deb39d93031898cbbc8d4fecb9d"), looks := false }, kinds := [], alts := [], laidByText := true, laidKinds := [.data, .data, .data], laidTests := true, laidLooks := .later }
def OpsTwiceCardSaid : Prop := Claim7.holds Tryd.pinned (.plain (OpenSpec.ofChange opsTwiceSpec)) opsTwiceCard

/-- THE TIED CARD OF 'gnomonlaw04.OpsCells'. -/
def opsCellsCard : Claim7 := { stood := { row := opsCellsRow, standIns := [], harness := (true, "2874c3d6163ac05604451298aa96bd884e105deb39d93031898cbbc8d4fecb9d"), looks := false }, kinds := [], alts := [], laidByText := true, laidKinds := [.data, .data, .data], laidTests := true, laidLooks := .later }
def OpsCellsCardSaid : Prop := Claim7.holds Tryd.pinned (.plain (OpenSpec.ofChange opsCellsSpec)) opsCellsCard

/-- THE TIED CARD OF 'gnomonlaw04.OpsHull'. -/
def opsHullCard : Claim7 := { stood := { row := opsHullRow, standIns := [], harness := (true, "2874c3d6163ac05604451298aa96bd884e105deb39d93031898cbbc8d4fecb9d"), looks := false }, kinds := [], alts := [], laidByText := true, laidKinds := [.data, .data, .data], laidTests := true, laidLooks := .later }
def OpsHullCardSaid : Prop := Claim7.holds Tryd.pinned (.plain (OpenSpec.ofChange opsHullSpec)) opsHullCard

/-- THE TIED CARD OF 'gnomonlaw04.OpsNone'. -/
def opsNoneCard : Claim7 := { stood := { row := opsNoneRow, standIns := [], harness := (true, "2874c3d6163ac05604451298aa96bd884e105deb39d93031898cbbc8d4fecb9d"), looks := false }, kinds := [], alts := [], laidByText := true, laidKinds := [.data, .data, .data], laidTests := true, laidLooks := .later }
def OpsNoneCardSaid : Prop := Claim7.holds Tryd.pinned (.plain (OpenSpec.ofChange opsNoneSpec)) opsNoneCard

/-- THE TIED CARD OF 'gnomonlaw05.ExtraWidens'. -/
def extraWidensCard : Claim7 := { stood := { row := extraWidensRow, standIns := [], harness := (true, "2874c3d6163ac05604451298aa96bd884e105deb39d93031898cbbc8d4fecb9d"), looks := false }, kinds := [], alts := [], laidByText := true, laidKinds := [.data, .data, .data], laidTests := true, laidLooks := .later }
def ExtraWidensCardSaid : Prop := Claim7.holds Tryd.pinned (.plain (OpenSpec.ofChange extraWidensSpec)) extraWidensCard

/-- THE TIED CARD OF 'gnomonlaw05.ExtraGone'. -/
def extraGoneCard : Claim7 := { stood := { row := extraGoneRow, standIns := [], harness := (true, "2874c3d6163ac05604451298aa96bd884e105deb39d93031898cbbc8d4fecb9d"), looks := false }, kinds := [], alts := [], laidByText := true, laidKinds := [.data, .data, .data], laidTests := true, laidLooks := .later }
def ExtraGoneCardSaid : Prop := Claim7.holds Tryd.pinned (.plain (OpenSpec.ofChange extraGoneSpec)) extraGoneCard

/-- THE TIED CARD OF 'gnomonlaw05.ExtraWider'. -/
def extraWiderCard : Claim7 := { stood := { row := extraWiderRow, standIns := [], harness := (true, "2874c3d6163ac05604451298aa96bd884e105deb39d93031898cbbc8d4fecb9d"), looks := false }, kinds := [], alts := [], laidByText := true, laidKinds := [.data, .data, .data], laidTests := true, laidLooks := .later }
def ExtraWiderCardSaid : Prop := Claim7.holds Tryd.pinned (.plain (OpenSpec.ofChange extraWiderSpec)) extraWiderCard

/-- THE TIED CARD OF 'gnomonlaw05.ExtraPoints'. -/
def extraPointsCard : Claim7 := { stood := { row := extraPointsRow, standIns := [], harness := (true, "2874c3d6163ac05604451298aa96bd884e105deb39d93031898cbbc8d4fecb9d"), looks := false }, kinds := [], alts := [], laidByText := true, laidKinds := [.data, .data, .data], laidTests := true, laidLooks := .later }
def ExtraPointsCardSaid : Prop := Claim7.holds Tryd.pinned (.plain (OpenSpec.ofChange extraPointsSpec)) extraPointsCard

/-- THE TIED CARD OF 'gnomonlaw05.ExtraGuards'. -/
def extraGuardsCard : Claim7 := { stood := { row := extraGuardsRow, standIns := [], harness := (true, "2874c3d6163ac05604451298aa96bd884e105deb39d93031898cbbc8d4fecb9d"), looks := false }, kinds := [], alts := [], laidByText := true, laidKinds := [.data, .data, .data], laidTests := true, laidLooks := .later }
def ExtraGuardsCardSaid : Prop := Claim7.holds Tryd.pinned (.plain (OpenSpec.ofChange extraGuardsSpec)) extraGuardsCard

/-- THE TIED CARD OF 'gnomonlaw05.ExtraSays'. -/
def extraSaysCard : Claim7 := { stood := { row := extraSaysRow, standIns := [], harness := (true, "2874c3d6163ac05604451298aa96bd884e105deb39d93031898cbbc8d4fecb9d"), looks := false }, kinds := [], alts := [], laidByText := true, laidKinds := [.data, .data, .data], laidTests := true, laidLooks := .later }
def ExtraSaysCardSaid : Prop := Claim7.holds Tryd.pinned (.plain (OpenSpec.ofChange extraSaysSpec)) extraSaysCard

/-- THE TIED CARD OF 'gnomonlaw05.ExtraNone'. -/
def extraNoneCard : Claim7 := { stood := { row := extraNoneRow, standIns := [], harness := (true, "2874c3d6163ac05604451298aa96bd884e105deb39d93031898cbbc8d4fecb9d"), looks := false }, kinds := [], alts := [], laidByText := true, laidKinds := [.data, .data, .data], laidTests := true, laidLooks := .later }
def ExtraNoneCardSaid : Prop := Claim7.holds Tryd.pinned (.plain (OpenSpec.ofChange extraNoneSpec)) extraNoneCard

/-- THE SECOND FORM's CARD OF 'gnomonlaw04.OpsTime'. -/
def opsTimeUptoCard : Claim7 := { stood := { row := opsTimeUptoRow, standIns := [], harness := (true, "2874c3d6163ac05604451298aa96bd884e105deb39d93031898cbbc8d4fecb9d"), looks := false }, kinds := [], alts := [], laidByText := true, laidKinds := [.data, .data, .data], laidTests := true, laidLooks := .later }
def OpsTimeUptoCardSaid : Prop := Claim7.holds Tryd.pinned (.plain (OpenSpec.upto opsTimeSpec)) opsTimeUptoCard

/-- THE SECOND FORM's CARD OF 'gnomonlaw04.OpsLimits'. -/
def opsLimitsUptoCard : Claim7 := { stood := { row := opsLimitsUptoRow, standIns := [], harness := (true, "2874c3d6163ac05604451298aa96bd884e105deb39d93031898cbbc8d4fecb9d"), looks := false }, kinds := [], alts := [], laidByText := true, laidKinds := [.data, .data, .data], laidTests := true, laidLooks := .later }
def OpsLimitsUptoCardSaid : Prop := Claim7.holds Tryd.pinned (.plain (OpenSpec.upto opsLimitsSpec)) opsLimitsUptoCard

/-- THE SECOND FORM's CARD OF 'gnomonlaw04.OpsGuards'. -/
def opsGuardsUptoCard : Claim7 := { stood := { row := opsGuardsUptoRow, standIns := [], harness := (true, "2874c3d6163ac05604451298aa96bd884e105deb39d93031898cbbc8d4fecb9d"), looks := false }, kinds := [], alts := [], laidByText := true, laidKinds := [.data, .data, .data], laidTests := true, laidLooks := .later }
def OpsGuardsUptoCardSaid : Prop := Claim7.holds Tryd.pinned (.plain (OpenSpec.upto opsGuardsSpec)) opsGuardsUptoCard

/-- THE SECOND FORM's CARD OF 'gnomonlaw04.OpsJoins'. -/
def opsJoinsUptoCard : Claim7 := { stood := { row := opsJoinsUptoRow, standIns := [], harness := (true, "2874c3d6163ac05604451298aa96bd884e105deb39d93031898cbbc8d4fecb9d"), looks := false }, kinds := [], alts := [], laidByText := true, laidKinds := [.data, .data, .data], laidTests := true, laidLooks := .later }
def OpsJoinsUptoCardSaid : Prop := Claim7.holds Tryd.pinned (.plain (OpenSpec.upto opsJoinsSpec)) opsJoinsUptoCard

/-- THE SECOND FORM's CARD OF 'gnomonlaw04.OpsPoints'. -/
def opsPointsUptoCard : Claim7 := { stood := { row := opsPointsUptoRow, standIns := [], harness := (true, "2874c3d6163ac05604451298aa96bd884e105deb39d93031898cbbc8d4fecb9d"), looks := false }, kinds := [], alts := [], laidByText := true, laidKinds := [.data, .data, .data], laidTests := true, laidLooks := .later }
def OpsPointsUptoCardSaid : Prop := Claim7.holds Tryd.pinned (.plain (OpenSpec.upto opsPointsSpec)) opsPointsUptoCard

/-- THE SECOND FORM's CARD OF 'gnomonlaw04.OpsTwice'. -/
def opsTwiceUptoCard : Claim7 := { stood := { row := opsTwiceUptoRow, standIns := [], harness := (true, "2874c3d6163ac05604451298aa96bd884e105deb39d93031898cbbc8d4fecb9d"), looks := false }, kinds := [], alts := [], laidByText := true, laidKinds := [.data, .data, .data], laidTests := true, laidLooks := .later }
def OpsTwiceUptoCardSaid : Prop := Claim7.holds Tryd.pinned (.plain (OpenSpec.upto opsTwiceSpec)) opsTwiceUptoCard

/-- THE SECOND FORM's CARD OF 'gnomonlaw04.OpsCells'. -/
def opsCellsUptoCard : Claim7 := { stood := { row := opsCellsUptoRow, standIns := [], harness := (true, "2874c3d6163ac05604451298aa96bd884e105deb39d93031898cbbc8d4fecb9d"), looks := false }, kinds := [], alts := [], laidByText := true, laidKinds := [.data, .data, .data], laidTests := true, laidLooks := .later }
def OpsCellsUptoCardSaid : Prop := Claim7.holds Tryd.pinned (.plain (OpenSpec.upto opsCellsSpec)) opsCellsUptoCard

/-- THE SECOND FORM's CARD OF 'gnomonlaw04.OpsHull'. -/
def opsHullUptoCard : Claim7 := { stood := { row := opsHullUptoRow, standIns := [], harness := (true, "2874c3d6163ac05604451298aa96bd884e105deb39d93031898cbbc8d4fecb9d"), looks := false }, kinds := [], alts := [], laidByText := true, laidKinds := [.data, .data, .data], laidTests := true, laidLooks := .later }
def OpsHullUptoCardSaid : Prop := Claim7.holds Tryd.pinned (.plain (OpenSpec.upto opsHullSpec)) opsHullUptoCard

/-- THE SECOND FORM's CARD OF 'gnomonlaw04.OpsNone'. -/
def opsNoneUptoCard : Claim7 := { stood := { row := opsNoneUptoRow, standIns := [], harness := (true, "2874c3d6163ac05604451298aa96bd884e105deb39d93031898cbbc8d4fecb9d"), looks := false }, kinds := [], alts := [], laidByText := true, laidKinds := [.data, .data, .data], laidTests := true, laidLooks := .later }
def OpsNoneUptoCardSaid : Prop := Claim7.holds Tryd.pinned (.plain (OpenSpec.upto opsNoneSpec)) opsNoneUptoCard

/-- THE SECOND FORM's CARD OF 'gnomonlaw05.ExtraWidens'. -/
def extraWidensUptoCard : Claim7 := { stood := { row := extraWidensUptoRow, standIns := [], harness := (true, "2874c3d6163ac05604451298aa96bd884e105deb39d93031898cbbc8d4fecb9d"), looks := false }, kinds := [], alts := [], laidByText := true, laidKinds := [.data, .data, .data], laidTests := true, laidLooks := .later }
def ExtraWidensUptoCardSaid : Prop := Claim7.holds Tryd.pinned (.plain (OpenSpec.upto extraWidensSpec)) extraWidensUptoCard

/-- THE SECOND FORM's CARD OF 'gnomonlaw05.ExtraGone'. -/
def extraGoneUptoCard : Claim7 := { stood := { row := extraGoneUptoRow, standIns := [], harness := (true, "2874c3d6163ac05604451298aa96bd884e105deb39d93031898cbbc8d4fecb9d"), looks := false }, kinds := [], alts := [], laidByText := true, laidKinds := [.data, .data, .data], laidTests := true, laidLooks := .later }
def ExtraGoneUptoCardSaid : Prop := Claim7.holds Tryd.pinned (.plain (OpenSpec.upto extraGoneSpec)) extraGoneUptoCard

/-- THE SECOND FORM's CARD OF 'gnomonlaw05.ExtraWider'. -/
def extraWiderUptoCard : Claim7 := { stood := { row := extraWiderUptoRow, standIns := [], harness := (true, "2874c3d6163ac05604451298aa96bd884e105deb39d93031898cbbc8d4fecb9d"), looks := false }, kinds := [], alts := [], laidByText := true, laidKinds := [.data, .data, .data], laidTests := true, laidLooks := .later }
def ExtraWiderUptoCardSaid : Prop := Claim7.holds Tryd.pinned (.plain (OpenSpec.upto extraWiderSpec)) extraWiderUptoCard

/-- THE SECOND FORM's CARD OF 'gnomonlaw05.ExtraPoints'. -/
def extraPointsUptoCard : Claim7 := { stood := { row := extraPointsUptoRow, standIns := [], harness := (true, "2874c3d6163ac05604451298aa96bd884e105deb39d93031898cbbc8d4fecb9d"), looks := false }, kinds := [], alts := [], laidByText := true, laidKinds := [.data, .data, .data], laidTests := true, laidLooks := .later }
def ExtraPointsUptoCardSaid : Prop := Claim7.holds Tryd.pinned (.plain (OpenSpec.upto extraPointsSpec)) extraPointsUptoCard

/-- THE SECOND FORM's CARD OF 'gnomonlaw05.ExtraGuards'. -/
def extraGuardsUptoCard : Claim7 := { stood := { row := extraGuardsUptoRow, standIns := [], harness := (true, "2874c3d6163ac05604451298aa96bd884e105deb39d93031898cbbc8d4fecb9d"), looks := false }, kinds := [], alts := [], laidByText := true, laidKinds := [.data, .data, .data], laidTests := true, laidLooks := .later }
def ExtraGuardsUptoCardSaid : Prop := Claim7.holds Tryd.pinned (.plain (OpenSpec.upto extraGuardsSpec)) extraGuardsUptoCard

/-- THE SECOND FORM's CARD OF 'gnomonlaw05.ExtraSays'. -/
def extraSaysUptoCard : Claim7 := { stood := { row := extraSaysUptoRow, standIns := [], harness := (true, "2874c3d6163ac05604451298aa96bd884e105deb39d93031898cbbc8d4fecb9d"), looks := false }, kinds := [], alts := [], laidByText := true, laidKinds := [.data, .data, .data], laidTests := true, laidLooks := .later }
def ExtraSaysUptoCardSaid : Prop := Claim7.holds Tryd.pinned (.plain (OpenSpec.upto extraSaysSpec)) extraSaysUptoCard

/-- THE SECOND FORM's CARD OF 'gnomonlaw05.ExtraNone'. -/
def extraNoneUptoCard : Claim7 := { stood := { row := extraNoneUptoRow, standIns := [], harness := (true, "2874c3d6163ac05604451298aa96bd884e105deb39d93031898cbbc8d4fecb9d"), looks := false }, kinds := [], alts := [], laidByText := true, laidKinds := [.data, .data, .data], laidTests := true, laidLooks := .later }
def ExtraNoneUptoCardSaid : Prop := Claim7.holds Tryd.pinned (.plain (OpenSpec.upto extraNoneSpec)) extraNoneUptoCard
end Rows
end Go.Proofs.YtfffcmelkdmjaaaDoor
