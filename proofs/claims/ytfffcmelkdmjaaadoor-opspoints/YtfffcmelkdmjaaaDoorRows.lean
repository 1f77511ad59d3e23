/-
  NARROWER THAN 'FOR EVERY INPUT', by the rows' own cells (each row's printed sentence says how): OpsTime: laid · OpsLimits: laid · OpsGuards: laid · OpsJoins: laid · OpsPoints: laid · OpsTwice: laid · OpsCells: laid · OpsHull: laid · OpsNone: laid · ExtraWidens: laid · ExtraGone: laid · ExtraWider: laid · ExtraPoints: laid · ExtraGuards: laid · ExtraSays: laid · ExtraNone: laid.
  DERIVED. THE GIVEN ROWS OF THIS SEAT. 16 by the template 'for every input the law returns true; each argument reads behind the call as it read before'; 0 by the template 'total and deterministic' (their statements: YtfffcmelkdmjaaaDoorTotals.lean).
  GIVEN WITH THE SEED: the statements are not yours to turn. If you find one false, say at which input.
  Laid BY PROGRAM, IN A SANDBOX (cutbox-rows.mjs): the forced cells as the released guide's own fill.sh prints them over the translation 40a6366649cf62bd… (all of the seat's roots in one cut). By AI agents, Wed Nov 11 2026. No macro, syntax, notation, axiom, sorry.
-/
import Derived.Test.YtfffcmelkdmjaaaDoorChecked
import GoSem.Claim
import GoSem.ClaimJoined
import GoSem.ClaimMapViews
import Derived.JoinedTies
import Derived.KernelRfl
namespace Go.Proofs.YtfffcmelkdmjaaaDoor
/- THE CELL 'sum', in the pinned program and in every row, IS THE sha256 OF THE DUMP (.gsa) THAT YtfffcmelkdmjaaaDoorProg.lean LOADS. Nothing in Lean hashes anything: it is a label: what it is worth is what the hold of that sum in a sandbox is worth. -/
noncomputable def Tryd.pinned : Pinned := { name := "ytfffcmelkdmjaaadoor", sum := "40a6366649cf62bd9d66af7d501e375278cdda3053be3850064a8fee113f4c89", checked := Tryd.checked }
namespace Rows
def none {H : Type} : Left H := { results := [], args := [] }

/- WHAT THE LISTED PACKAGE-LEVEL VARIABLES READ AS WHEN THE CALL BEGINS. Each datum BY PROGRAM (the guide's laid-datum.mjs) off the statement by which the dump's own 'gosem.cut.vars' lays the variable. In a bare row this is a premise. The card (YtfffcmelkdmjaaaDoorCards.lean) ties it to the program's text. -/
def laid_math_bits_deBruijn32tab {H : Type} : DataW H := .agg [.lit (.int .u8 0), .lit (.int .u8 1), .lit (.int .u8 28), .lit (.int .u8 2), .lit (.int .u8 29), .lit (.int .u8 14), .lit (.int .u8 24), .lit (.int .u8 3), .lit (.int .u8 30), .lit (.int .u8 22), .lit (.int .u8 20), .lit (.int .u8 15), .lit (.int .u8 25), .lit (.int .u8 17), .lit (.int .u8 4), .lit (.int .u8 8), .lit (.int .u8 31), .lit (.int .u8 27), .lit (.int .u8 13), .lit (.int .u8 23), .lit (.int .u8 21), .lit (.int .u8 19), .lit (.int .u8 16), .lit (.int .u8 7), .lit (.int .u8 26), .lit (.int .u8 12), .lit (.int .u8 18), .lit (.int .u8 6), .lit (.int .u8 11), .lit (.int .u8 5), .lit (.int .u8 10), .lit (.int .u8 9)]
def laid_math_bits_deBruijn64tab {H : Type} : DataW H := .agg [.lit (.int .u8 0), .lit (.int .u8 1), .lit (.int .u8 56), .lit (.int .u8 2), .lit (.int .u8 57), .lit (.int .u8 49), .lit (.int .u8 28), .lit (.int .u8 3), .lit (.int .u8 61), .lit (.int .u8 58), .lit (.int .u8 42), .lit (.int .u8 50), .lit (.int .u8 38), .lit (.int .u8 29), .lit (.int .u8 17), .lit (.int .u8 4), .lit (.int .u8 62), .lit (.int .u8 47), .lit (.int .u8 59), .lit (.int .u8 36), .lit (.int .u8 45), .lit (.int .u8 43), .lit (.int .u8 51), .lit (.int .u8 22), .lit (.int .u8 53), .lit (.int .u8 39), .lit (.int .u8 33), .lit (.int .u8 30), .lit (.int .u8 24), .lit (.int .u8 18), .lit (.int .u8 12), .lit (.int .u8 5), .lit (.int .u8 63), .lit (.int .u8 55), .lit (.int .u8 48), .lit (.int .u8 27), .lit (.int .u8 60), .lit (.int .u8 41), .lit (.int .u8 37), .lit (.int .u8 16), .lit (.int .u8 46), .lit (.int .u8 35), .lit (.int .u8 44), .lit (.int .u8 21), .lit (.int .u8 52), .lit (.int .u8 32), .lit (.int .u8 23), .lit (.int .u8 11), .lit (.int .u8 54), .lit (.int .u8 26), .lit (.int .u8 40), .lit (.int .u8 15), .lit (.int .u8 34), .lit (.int .u8 20), .lit (.int .u8 31), .lit (.int .u8 10), .lit (.int .u8 25), .lit (.int .u8 14), .lit (.int .u8 19), .lit (.int .u8 9), .lit (.int .u8 13), .lit (.int .u8 8), .lit (.int .u8 7), .lit (.int .u8 6)]
def laid_internal_strconv_uint64pow10 {H : Type} : DataW H := .agg [.lit (.int .u64 1), .lit (.int .u64 10), .lit (.int .u64 100), .lit (.int .u64 1000), .lit (.int .u64 10000), .lit (.int .u64 100000), .lit (.int .u64 1000000), .lit (.int .u64 10000000), .lit (.int .u64 100000000), .lit (.int .u64 1000000000), .lit (.int .u64 10000000000), .lit (.int .u64 100000000000), .lit (.int .u64 1000000000000), .lit (.int .u64 10000000000000), .lit (.int .u64 100000000000000), .lit (.int .u64 1000000000000000), .lit (.int .u64 10000000000000000), .lit (.int .u64 100000000000000000), .lit (.int .u64 1000000000000000000), .lit (.int .u64 10000000000000000000)]

/-- 'gnomonlaw04.OpsTime': WHATEVER THE INPUT: true; the input reads as it did. -/
def opsTimeSpec : ChangeSpec := { name := "opsTime", fn := fun _ => fun
  | [d1, d2] => { results := [.lit (.bool true)], args := [d1, d2] }
  | _ => none }
def opsTimeRow : OpenClaim := { program := "ytfffcmelkdmjaaadoor", sum := "40a6366649cf62bd9d66af7d501e375278cdda3053be3850064a8fee113f4c89", func := "gnomon/gnomonlaw04.OpsTime", spec := "opsTime", inPlace := ["internal/abi.NoEscape"], named := ["internal/strconv.uint64pow10", "math/bits.deBruijn32tab", "math/bits.deBruijn64tab"], apart := false, laid := [("math/bits.deBruijn32tab", laid_math_bits_deBruijn32tab), ("math/bits.deBruijn64tab", laid_math_bits_deBruijn64tab), ("internal/strconv.uint64pow10", laid_internal_strconv_uint64pow10)] }
def OpsTimeSaid : Prop := opsTimeRow.holds Tryd.pinned (OpenSpec.ofChange opsTimeSpec)

/-- ITS FALSE NEIGHBOUR: 'it returns false'. Refute it at one input. -/
def opsTimeWrong : ChangeSpec := { name := "opsTime", fn := fun _ => fun
  | [d1, d2] => { results := [.lit (.bool false)], args := [d1, d2] }
  | _ => none }
def OpsTimeWrongFalsely : Prop := opsTimeRow.holds Tryd.pinned (OpenSpec.ofChange opsTimeWrong)

/-- 'gnomonlaw04.OpsLimits': WHATEVER THE INPUT: true; the input reads as it did. -/
def opsLimitsSpec : ChangeSpec := { name := "opsLimits", fn := fun _ => fun
  | [d1, d2, d3] => { results := [.lit (.bool true)], args := [d1, d2, d3] }
  | _ => none }
def opsLimitsRow : OpenClaim := { program := "ytfffcmelkdmjaaadoor", sum := "40a6366649cf62bd9d66af7d501e375278cdda3053be3850064a8fee113f4c89", func := "gnomon/gnomonlaw04.OpsLimits", spec := "opsLimits", inPlace := ["internal/abi.NoEscape"], named := ["internal/strconv.uint64pow10", "math/bits.deBruijn32tab", "math/bits.deBruijn64tab"], apart := false, laid := [("math/bits.deBruijn32tab", laid_math_bits_deBruijn32tab), ("math/bits.deBruijn64tab", laid_math_bits_deBruijn64tab), ("internal/strconv.uint64pow10", laid_internal_strconv_uint64pow10)] }
def OpsLimitsSaid : Prop := opsLimitsRow.holds Tryd.pinned (OpenSpec.ofChange opsLimitsSpec)

/-- ITS FALSE NEIGHBOUR: 'it returns false'. Refute it at one input. -/
def opsLimitsWrong : ChangeSpec := { name := "opsLimits", fn := fun _ => fun
  | [d1, d2, d3] => { results := [.lit (.bool false)], args := [d1, d2, d3] }
  | _ => none }
def OpsLimitsWrongFalsely : Prop := opsLimitsRow.holds Tryd.pinned (OpenSpec.ofChange opsLimitsWrong)

/-- 'gnomonlaw04.OpsGuards': WHATEVER THE INPUT: true; the input reads as it did. -/
def opsGuardsSpec : ChangeSpec := { name := "opsGuards", fn := fun _ => fun
  | [d1, d2, d3] => { results := [.lit (.bool true)], args := [d1, d2, d3] }
  | _ => none }
def opsGuardsRow : OpenClaim := { program := "ytfffcmelkdmjaaadoor", sum := "40a6366649cf62bd9d66af7d501e375278cdda3053be3850064a8fee113f4c89", func := "gnomon/gnomonlaw04.OpsGuards", spec := "opsGuards", inPlace := ["internal/abi.NoEscape"], named := ["internal/strconv.uint64pow10", "math/bits.deBruijn32tab", "math/bits.deBruijn64tab"], apart := false, laid := [("math/bits.deBruijn32tab", laid_math_bits_deBruijn32tab), ("math/bits.deBruijn64tab", laid_math_bits_deBruijn64tab), ("internal/strconv.uint64pow10", laid_internal_strconv_uint64pow10)] }
def OpsGuardsSaid : Prop := opsGuardsRow.holds Tryd.pinned (OpenSpec.ofChange opsGuardsSpec)

/-- ITS FALSE NEIGHBOUR: 'it returns false'. Refute it at one input. -/
def opsGuardsWrong : ChangeSpec := { name := "opsGuards", fn := fun _ => fun
  | [d1, d2, d3] => { results := [.lit (.bool false)], args := [d1, d2, d3] }
  | _ => none }
def OpsGuardsWrongFalsely : Prop := opsGuardsRow.holds Tryd.pinned (OpenSpec.ofChange opsGuardsWrong)

/-- 'gnomonlaw04.OpsJoins': WHATEVER THE INPUT: true; the input reads as it did. -/
def opsJoinsSpec : ChangeSpec := { name := "opsJoins", fn := fun _ => fun
  | [d1, d2, d3] => { results := [.lit (.bool true)], args := [d1, d2, d3] }
  | _ => none }
def opsJoinsRow : OpenClaim := { program := "ytfffcmelkdmjaaadoor", sum := "40a6366649cf62bd9d66af7d501e375278cdda3053be3850064a8fee113f4c89", func := "gnomon/gnomonlaw04.OpsJoins", spec := "opsJoins", inPlace := ["internal/abi.NoEscape"], named := ["internal/strconv.uint64pow10", "math/bits.deBruijn32tab", "math/bits.deBruijn64tab"], apart := false, laid := [("math/bits.deBruijn32tab", laid_math_bits_deBruijn32tab), ("math/bits.deBruijn64tab", laid_math_bits_deBruijn64tab), ("internal/strconv.uint64pow10", laid_internal_strconv_uint64pow10)] }
def OpsJoinsSaid : Prop := opsJoinsRow.holds Tryd.pinned (OpenSpec.ofChange opsJoinsSpec)

/-- ITS FALSE NEIGHBOUR: 'it returns false'. Refute it at one input. -/
def opsJoinsWrong : ChangeSpec := { name := "opsJoins", fn := fun _ => fun
  | [d1, d2, d3] => { results := [.lit (.bool false)], args := [d1, d2, d3] }
  | _ => none }
def OpsJoinsWrongFalsely : Prop := opsJoinsRow.holds Tryd.pinned (OpenSpec.ofChange opsJoinsWrong)

/-- 'gnomonlaw04.OpsPoints': WHATEVER THE INPUT: true; the input reads as it did. -/
def opsPointsSpec : ChangeSpec := { name := "opsPoints", fn := fun _ => fun
  | [d1, d2, d3] => { results := [.lit (.bool true)], args := [d1, d2, d3] }
  | _ => none }
def opsPointsRow : OpenClaim := { program := "ytfffcmelkdmjaaadoor", sum := "40a6366649cf62bd9d66af7d501e375278cdda3053be3850064a8fee113f4c89", func := "gnomon/gnomonlaw04.OpsPoints", spec := "opsPoints", inPlace := ["internal/abi.NoEscape"], named := ["internal/strconv.uint64pow10", "math/bits.deBruijn32tab", "math/bits.deBruijn64tab"], apart := false, laid := [("math/bits.deBruijn32tab", laid_math_bits_deBruijn32tab), ("math/bits.deBruijn64tab", laid_math_bits_deBruijn64tab), ("internal/strconv.uint64pow10", laid_internal_strconv_uint64pow10)] }
def OpsPointsSaid : Prop := opsPointsRow.holds Tryd.pinned (OpenSpec.ofChange opsPointsSpec)

/-- ITS FALSE NEIGHBOUR: 'it returns false'. Refute it at one input. -/
def opsPointsWrong : ChangeSpec := { name := "opsPoints", fn := fun _ => fun
  | [d1, d2, d3] => { results := [.lit (.bool false)], args := [d1, d2, d3] }
  | _ => none }
def OpsPointsWrongFalsely : Prop := opsPointsRow.holds Tryd.pinned (OpenSpec.ofChange opsPointsWrong)

/-- 'gnomonlaw04.OpsTwice': WHATEVER THE INPUT: true; the input reads as it did. -/
def opsTwiceSpec : ChangeSpec := { name := "opsTwice", fn := fun _ => fun
  | [d1, d2, d3] => { results := [.lit (.bool true)], args := [d1, d2, d3] }
  | _ => none }
def opsTwiceRow : OpenClaim := { program := "ytfffcmelkdmjaaadoor", sum := "40a6366649cf62bd9d66af7d501e375278cdda3053be3850064a8fee113f4c89", func := "gnomon/gnomonlaw04.OpsTwice", spec := "opsTwice", inPlace := ["internal/abi.NoEscape"], named := ["internal/strconv.uint64pow10", "math/bits.deBruijn32tab", "math/bits.deBruijn64tab"], apart := false, laid := [("math/bits.deBruijn32tab", laid_math_bits_deBruijn32tab), ("math/bits.deBruijn64tab", laid_math_bits_deBruijn64tab), ("internal/strconv.uint64pow10", laid_internal_strconv_uint64pow10)] }
def OpsTwiceSaid : Prop := opsTwiceRow.holds Tryd.pinned (OpenSpec.ofChange opsTwiceSpec)

/-- ITS FALSE NEIGHBOUR: 'it returns false'. Refute it at one input. -/
def opsTwiceWrong : ChangeSpec := { name := "opsTwice", fn := fun _ => fun
  | [d1, d2, d3] => { results := [.lit (.bool false)], args := [d1, d2, d3] }
  | _ => none }
def OpsTwiceWrongFalsely : Prop := opsTwiceRow.holds Tryd.pinned (OpenSpec.ofChange opsTwiceWrong)

/-- 'gnomonlaw04.OpsCells': WHATEVER THE INPUT: true; the input reads as it did. -/
def opsCellsSpec : ChangeSpec := { name := "opsCells", fn := fun _ => fun
  | [d1, d2, d3] => { results := [.lit (.bool true)], args := [d1, d2, d3] }
  | _ => none }
def opsCellsRow : OpenClaim := { program := "ytfffcmelkdmjaaadoor", sum := "40a6366649cf62bd9d66af7d501e375278cdda3053be3850064a8fee113f4c89", func := "gnomon/gnomonlaw04.OpsCells", spec := "opsCells", inPlace := ["internal/abi.NoEscape"], named := ["internal/strconv.uint64pow10", "math/bits.deBruijn32tab", "math/bits.deBruijn64tab"], apart := false, laid := [("math/bits.deBruijn32tab", laid_math_bits_deBruijn32tab), ("math/bits.deBruijn64tab", laid_math_bits_deBruijn64tab), ("internal/strconv.uint64pow10", laid_internal_strconv_uint64pow10)] }
def OpsCellsSaid : Prop := opsCellsRow.holds Tryd.pinned (OpenSpec.ofChange opsCellsSpec)

/-- ITS FALSE NEIGHBOUR: 'it returns false'. Refute it at one input. -/
def opsCellsWrong : ChangeSpec := { name := "opsCells", fn := fun _ => fun
  | [d1, d2, d3] => { results := [.lit (.bool false)], args := [d1, d2, d3] }
  | _ => none }
def OpsCellsWrongFalsely : Prop := opsCellsRow.holds Tryd.pinned (OpenSpec.ofChange opsCellsWrong)

/-- 'gnomonlaw04.OpsHull': WHATEVER THE INPUT: true; the input reads as it did. -/
def opsHullSpec : ChangeSpec := { name := "opsHull", fn := fun _ => fun
  | [d1, d2, d3] => { results := [.lit (.bool true)], args := [d1, d2, d3] }
  | _ => none }
def opsHullRow : OpenClaim := { program := "ytfffcmelkdmjaaadoor", sum := "40a6366649cf62bd9d66af7d501e375278cdda3053be3850064a8fee113f4c89", func := "gnomon/gnomonlaw04.OpsHull", spec := "opsHull", inPlace := ["internal/abi.NoEscape"], named := ["internal/strconv.uint64pow10", "math/bits.deBruijn32tab", "math/bits.deBruijn64tab"], apart := false, laid := [("math/bits.deBruijn32tab", laid_math_bits_deBruijn32tab), ("math/bits.deBruijn64tab", laid_math_bits_deBruijn64tab), ("internal/strconv.uint64pow10", laid_internal_strconv_uint64pow10)] }
def OpsHullSaid : Prop := opsHullRow.holds Tryd.pinned (OpenSpec.ofChange opsHullSpec)

/-- ITS FALSE NEIGHBOUR: 'it returns false'. Refute it at one input. -/
def opsHullWrong : ChangeSpec := { name := "opsHull", fn := fun _ => fun
  | [d1, d2, d3] => { results := [.lit (.bool false)], args := [d1, d2, d3] }
  | _ => none }
def OpsHullWrongFalsely : Prop := opsHullRow.holds Tryd.pinned (OpenSpec.ofChange opsHullWrong)

/-- 'gnomonlaw04.OpsNone': WHATEVER THE INPUT: true; the input reads as it did. -/
def opsNoneSpec : ChangeSpec := { name := "opsNone", fn := fun _ => fun
  | [d1, d2, d3] => { results := [.lit (.bool true)], args := [d1, d2, d3] }
  | _ => none }
def opsNoneRow : OpenClaim := { program := "ytfffcmelkdmjaaadoor", sum := "40a6366649cf62bd9d66af7d501e375278cdda3053be3850064a8fee113f4c89", func := "gnomon/gnomonlaw04.OpsNone", spec := "opsNone", inPlace := ["internal/abi.NoEscape"], named := ["internal/strconv.uint64pow10", "math/bits.deBruijn32tab", "math/bits.deBruijn64tab"], apart := false, laid := [("math/bits.deBruijn32tab", laid_math_bits_deBruijn32tab), ("math/bits.deBruijn64tab", laid_math_bits_deBruijn64tab), ("internal/strconv.uint64pow10", laid_internal_strconv_uint64pow10)] }
def OpsNoneSaid : Prop := opsNoneRow.holds Tryd.pinned (OpenSpec.ofChange opsNoneSpec)

/-- ITS FALSE NEIGHBOUR: 'it returns false'. Refute it at one input. -/
def opsNoneWrong : ChangeSpec := { name := "opsNone", fn := fun _ => fun
  | [d1, d2, d3] => { results := [.lit (.bool false)], args := [d1, d2, d3] }
  | _ => none }
def OpsNoneWrongFalsely : Prop := opsNoneRow.holds Tryd.pinned (OpenSpec.ofChange opsNoneWrong)

/-- 'gnomonlaw05.ExtraWidens': WHATEVER THE INPUT: true; the input reads as it did. -/
def extraWidensSpec : ChangeSpec := { name := "extraWidens", fn := fun _ => fun
  | [d1, d2, d3] => { results := [.lit (.bool true)], args := [d1, d2, d3] }
  | _ => none }
def extraWidensRow : OpenClaim := { program := "ytfffcmelkdmjaaadoor", sum := "40a6366649cf62bd9d66af7d501e375278cdda3053be3850064a8fee113f4c89", func := "gnomon/gnomonlaw05.ExtraWidens", spec := "extraWidens", inPlace := ["internal/abi.NoEscape"], unfollowed := true, recurses := true, named := ["internal/strconv.uint64pow10", "math/bits.deBruijn32tab", "math/bits.deBruijn64tab"], apart := false, laid := [("math/bits.deBruijn32tab", laid_math_bits_deBruijn32tab), ("math/bits.deBruijn64tab", laid_math_bits_deBruijn64tab), ("internal/strconv.uint64pow10", laid_internal_strconv_uint64pow10)] }
def ExtraWidensSaid : Prop := extraWidensRow.holds Tryd.pinned (OpenSpec.ofChange extraWidensSpec)

/-- ITS FALSE NEIGHBOUR: 'it returns false'. Refute it at one input. -/
def extraWidensWrong : ChangeSpec := { name := "extraWidens", fn := fun _ => fun
  | [d1, d2, d3] => { results := [.lit (.bool false)], args := [d1, d2, d3] }
  | _ => none }
def ExtraWidensWrongFalsely : Prop := extraWidensRow.holds Tryd.pinned (OpenSpec.ofChange extraWidensWrong)

/-- 'gnomonlaw05.ExtraGone': WHATEVER THE INPUT: true; the input reads as it did. -/
def extraGoneSpec : ChangeSpec := { name := "extraGone", fn := fun _ => fun
  | [d1, d2, d3] => { results := [.lit (.bool true)], args := [d1, d2, d3] }
  | _ => none }
def extraGoneRow : OpenClaim := { program := "ytfffcmelkdmjaaadoor", sum := "40a6366649cf62bd9d66af7d501e375278cdda3053be3850064a8fee113f4c89", func := "gnomon/gnomonlaw05.ExtraGone", spec := "extraGone", inPlace := ["internal/abi.NoEscape"], unfollowed := true, recurses := true, named := ["internal/strconv.uint64pow10", "math/bits.deBruijn32tab", "math/bits.deBruijn64tab"], apart := false, laid := [("math/bits.deBruijn32tab", laid_math_bits_deBruijn32tab), ("math/bits.deBruijn64tab", laid_math_bits_deBruijn64tab), ("internal/strconv.uint64pow10", laid_internal_strconv_uint64pow10)] }
def ExtraGoneSaid : Prop := extraGoneRow.holds Tryd.pinned (OpenSpec.ofChange extraGoneSpec)

/-- ITS FALSE NEIGHBOUR: 'it returns false'. Refute it at one input. -/
def extraGoneWrong : ChangeSpec := { name := "extraGone", fn := fun _ => fun
  | [d1, d2, d3] => { results := [.lit (.bool false)], args := [d1, d2, d3] }
  | _ => none }
def ExtraGoneWrongFalsely : Prop := extraGoneRow.holds Tryd.pinned (OpenSpec.ofChange extraGoneWrong)

/-- 'gnomonlaw05.ExtraWider': WHATEVER THE INPUT: true; the input reads as it did. -/
def extraWiderSpec : ChangeSpec := { name := "extraWider", fn := fun _ => fun
  | [d1, d2, d3] => { results := [.lit (.bool true)], args := [d1, d2, d3] }
  | _ => none }
def extraWiderRow : OpenClaim := { program := "ytfffcmelkdmjaaadoor", sum := "40a6366649cf62bd9d66af7d501e375278cdda3053be3850064a8fee113f4c89", func := "gnomon/gnomonlaw05.ExtraWider", spec := "extraWider", inPlace := ["internal/abi.NoEscape"], unfollowed := true, recurses := true, named := ["internal/strconv.uint64pow10", "math/bits.deBruijn32tab", "math/bits.deBruijn64tab"], apart := false, laid := [("math/bits.deBruijn32tab", laid_math_bits_deBruijn32tab), ("math/bits.deBruijn64tab", laid_math_bits_deBruijn64tab), ("internal/strconv.uint64pow10", laid_internal_strconv_uint64pow10)] }
def ExtraWiderSaid : Prop := extraWiderRow.holds Tryd.pinned (OpenSpec.ofChange extraWiderSpec)

/-- ITS FALSE NEIGHBOUR: 'it returns false'. Refute it at one input. -/
def extraWiderWrong : ChangeSpec := { name := "extraWider", fn := fun _ => fun
  | [d1, d2, d3] => { results := [.lit (.bool false)], args := [d1, d2, d3] }
  | _ => none }
def ExtraWiderWrongFalsely : Prop := extraWiderRow.holds Tryd.pinned (OpenSpec.ofChange extraWiderWrong)

/-- 'gnomonlaw05.ExtraPoints': WHATEVER THE INPUT: true; the input reads as it did. -/
def extraPointsSpec : ChangeSpec := { name := "extraPoints", fn := fun _ => fun
  | [d1, d2, d3] => { results := [.lit (.bool true)], args := [d1, d2, d3] }
  | _ => none }
def extraPointsRow : OpenClaim := { program := "ytfffcmelkdmjaaadoor", sum := "40a6366649cf62bd9d66af7d501e375278cdda3053be3850064a8fee113f4c89", func := "gnomon/gnomonlaw05.ExtraPoints", spec := "extraPoints", inPlace := ["internal/abi.NoEscape"], unfollowed := true, recurses := true, named := ["internal/strconv.uint64pow10", "math/bits.deBruijn32tab", "math/bits.deBruijn64tab"], apart := false, laid := [("math/bits.deBruijn32tab", laid_math_bits_deBruijn32tab), ("math/bits.deBruijn64tab", laid_math_bits_deBruijn64tab), ("internal/strconv.uint64pow10", laid_internal_strconv_uint64pow10)] }
def ExtraPointsSaid : Prop := extraPointsRow.holds Tryd.pinned (OpenSpec.ofChange extraPointsSpec)

/-- ITS FALSE NEIGHBOUR: 'it returns false'. Refute it at one input. -/
def extraPointsWrong : ChangeSpec := { name := "extraPoints", fn := fun _ => fun
  | [d1, d2, d3] => { results := [.lit (.bool false)], args := [d1, d2, d3] }
  | _ => none }
def ExtraPointsWrongFalsely : Prop := extraPointsRow.holds Tryd.pinned (OpenSpec.ofChange extraPointsWrong)

/-- 'gnomonlaw05.ExtraGuards': WHATEVER THE INPUT: true; the input reads as it did. -/
def extraGuardsSpec : ChangeSpec := { name := "extraGuards", fn := fun _ => fun
  | [d1, d2, d3] => { results := [.lit (.bool true)], args := [d1, d2, d3] }
  | _ => none }
def extraGuardsRow : OpenClaim := { program := "ytfffcmelkdmjaaadoor", sum := "40a6366649cf62bd9d66af7d501e375278cdda3053be3850064a8fee113f4c89", func := "gnomon/gnomonlaw05.ExtraGuards", spec := "extraGuards", inPlace := ["internal/abi.NoEscape"], unfollowed := true, recurses := true, named := ["internal/strconv.uint64pow10", "math/bits.deBruijn32tab", "math/bits.deBruijn64tab"], apart := false, laid := [("math/bits.deBruijn32tab", laid_math_bits_deBruijn32tab), ("math/bits.deBruijn64tab", laid_math_bits_deBruijn64tab), ("internal/strconv.uint64pow10", laid_internal_strconv_uint64pow10)] }
def ExtraGuardsSaid : Prop := extraGuardsRow.holds Tryd.pinned (OpenSpec.ofChange extraGuardsSpec)

/-- ITS FALSE NEIGHBOUR: 'it returns false'. Refute it at one input. -/
def extraGuardsWrong : ChangeSpec := { name := "extraGuards", fn := fun _ => fun
  | [d1, d2, d3] => { results := [.lit (.bool false)], args := [d1, d2, d3] }
  | _ => none }
def ExtraGuardsWrongFalsely : Prop := extraGuardsRow.holds Tryd.pinned (OpenSpec.ofChange extraGuardsWrong)

/-- 'gnomonlaw05.ExtraSays': WHATEVER THE INPUT: true; the input reads as it did. -/
def extraSaysSpec : ChangeSpec := { name := "extraSays", fn := fun _ => fun
  | [d1, d2, d3] => { results := [.lit (.bool true)], args := [d1, d2, d3] }
  | _ => none }
def extraSaysRow : OpenClaim := { program := "ytfffcmelkdmjaaadoor", sum := "40a6366649cf62bd9d66af7d501e375278cdda3053be3850064a8fee113f4c89", func := "gnomon/gnomonlaw05.ExtraSays", spec := "extraSays", inPlace := ["internal/abi.NoEscape"], unfollowed := true, recurses := true, named := ["internal/strconv.uint64pow10", "math/bits.deBruijn32tab", "math/bits.deBruijn64tab"], apart := false, laid := [("math/bits.deBruijn32tab", laid_math_bits_deBruijn32tab), ("math/bits.deBruijn64tab", laid_math_bits_deBruijn64tab), ("internal/strconv.uint64pow10", laid_internal_strconv_uint64pow10)] }
def ExtraSaysSaid : Prop := extraSaysRow.holds Tryd.pinned (OpenSpec.ofChange extraSaysSpec)

/-- ITS FALSE NEIGHBOUR: 'it returns false'. Refute it at one input. -/
def extraSaysWrong : ChangeSpec := { name := "extraSays", fn := fun _ => fun
  | [d1, d2, d3] => { results := [.lit (.bool false)], args := [d1, d2, d3] }
  | _ => none }
def ExtraSaysWrongFalsely : Prop := extraSaysRow.holds Tryd.pinned (OpenSpec.ofChange extraSaysWrong)

/-- 'gnomonlaw05.ExtraNone': WHATEVER THE INPUT: true; the input reads as it did. -/
def extraNoneSpec : ChangeSpec := { name := "extraNone", fn := fun _ => fun
  | [d] => { results := [.lit (.bool true)], args := [d] }
  | _ => none }
def extraNoneRow : OpenClaim := { program := "ytfffcmelkdmjaaadoor", sum := "40a6366649cf62bd9d66af7d501e375278cdda3053be3850064a8fee113f4c89", func := "gnomon/gnomonlaw05.ExtraNone", spec := "extraNone", inPlace := ["internal/abi.NoEscape"], unfollowed := true, recurses := true, named := ["internal/strconv.uint64pow10", "math/bits.deBruijn32tab", "math/bits.deBruijn64tab"], apart := false, laid := [("math/bits.deBruijn32tab", laid_math_bits_deBruijn32tab), ("math/bits.deBruijn64tab", laid_math_bits_deBruijn64tab), ("internal/strconv.uint64pow10", laid_internal_strconv_uint64pow10)] }
def ExtraNoneSaid : Prop := extraNoneRow.holds Tryd.pinned (OpenSpec.ofChange extraNoneSpec)

/-- ITS FALSE NEIGHBOUR: 'it returns false'. Refute it at one input. -/
def extraNoneWrong : ChangeSpec := { name := "extraNone", fn := fun _ => fun
  | [d] => { results := [.lit (.bool false)], args := [d] }
  | _ => none }
def ExtraNoneWrongFalsely : Prop := extraNoneRow.holds Tryd.pinned (OpenSpec.ofChange extraNoneWrong)

/- THE SECOND FORM. 'bulk': how many values and letters a reading holds, each counted each time it is reached (what is shared counts as often as it is met; a slice's spare places count too). A statement '..UptoSaid' is the law's where the arguments, and the package variables that the reading takes, are together of bulk at most 1048576: NARROWER than '..Said'. Prove '..Said' where nothing that the law and all that it calls make is longer than what came in: it says more and counts as full. Else prove '..UptoSaid'. A law counts once. -/
mutual
def uptoBulk {H : Type} : DataW H → Nat
  | .lit (.string bytes) => bytes.length + 1
  | .lit _ => 1
  | .nil => 1
  | .ptr d => uptoBulk d + 1
  | .slice elems spare => uptoBulkAll elems + uptoBulkAll spare + 1
  | .agg parts => uptoBulkAll parts + 1
  | .iface _ d => uptoBulk d + 1
  | .map entries => uptoBulkEntries entries + 1
  | .held _ => 1
def uptoBulkAll {H : Type} : List (DataW H) → Nat
  | [] => 0
  | d :: r => uptoBulk d + uptoBulkAll r
def uptoBulkEntries {H : Type} : List (Lit × DataW H) → Nat
  | [] => 0
  | x :: r => uptoBulkEntry x + uptoBulkEntries r
def uptoBulkEntry {H : Type} : Lit × DataW H → Nat
  | (.string bytes, d) => bytes.length + uptoBulk d + 1
  | (_, d) => uptoBulk d + 1
 end
def uptoSmall : (H : Type) → List (DataW H) → Bool := fun _ ds => decide (uptoBulkAll ds ≤ 1048576)
def OpenSpec.upto (s : _root_.Go.ChangeSpec) : _root_.Go.OpenSpec := { _root_.Go.OpenSpec.ofChange s with cond := some uptoSmall }

/-- 'gnomonlaw04.OpsTime', WHERE WHAT IT READS IS OF BULK AT MOST 1048576: true; the input reads as it did. -/
def opsTimeUptoRow : OpenClaim := { program := "ytfffcmelkdmjaaadoor", sum := "40a6366649cf62bd9d66af7d501e375278cdda3053be3850064a8fee113f4c89", func := "gnomon/gnomonlaw04.OpsTime", spec := "opsTime", inPlace := ["internal/abi.NoEscape"], named := ["internal/strconv.uint64pow10", "math/bits.deBruijn32tab", "math/bits.deBruijn64tab"], apart := false, laid := [("math/bits.deBruijn32tab", laid_math_bits_deBruijn32tab), ("math/bits.deBruijn64tab", laid_math_bits_deBruijn64tab), ("internal/strconv.uint64pow10", laid_internal_strconv_uint64pow10)], narrowed := true }
def OpsTimeUptoSaid : Prop := opsTimeUptoRow.holds Tryd.pinned (OpenSpec.upto opsTimeSpec)

/-- 'gnomonlaw04.OpsLimits', WHERE WHAT IT READS IS OF BULK AT MOST 1048576: true; the input reads as it did. -/
def opsLimitsUptoRow : OpenClaim := { program := "ytfffcmelkdmjaaadoor", sum := "40a6366649cf62bd9d66af7d501e375278cdda3053be3850064a8fee113f4c89", func := "gnomon/gnomonlaw04.OpsLimits", spec := "opsLimits", inPlace := ["internal/abi.NoEscape"], named := ["internal/strconv.uint64pow10", "math/bits.deBruijn32tab", "math/bits.deBruijn64tab"], apart := false, laid := [("math/bits.deBruijn32tab", laid_math_bits_deBruijn32tab), ("math/bits.deBruijn64tab", laid_math_bits_deBruijn64tab), ("internal/strconv.uint64pow10", laid_internal_strconv_uint64pow10)], narrowed := true }
def OpsLimitsUptoSaid : Prop := opsLimitsUptoRow.holds Tryd.pinned (OpenSpec.upto opsLimitsSpec)

/-- 'gnomonlaw04.OpsGuards', WHERE WHAT IT READS IS OF BULK AT MOST 1048576: true; the input reads as it did. -/
def opsGuardsUptoRow : OpenClaim := { program := "ytfffcmelkdmjaaadoor", sum := "40a6366649cf62bd9d66af7d501e375278cdda3053be3850064a8fee113f4c89", func := "gnomon/gnomonlaw04.OpsGuards", spec := "opsGuards", inPlace := ["internal/abi.NoEscape"], named := ["internal/strconv.uint64pow10", "math/bits.deBruijn32tab", "math/bits.deBruijn64tab"], apart := false, laid := [("math/bits.deBruijn32tab", laid_math_bits_deBruijn32tab), ("math/bits.deBruijn64tab", laid_math_bits_deBruijn64tab), ("internal/strconv.uint64pow10", laid_internal_strconv_uint64pow10)], narrowed := true }
def OpsGuardsUptoSaid : Prop := opsGuardsUptoRow.holds Tryd.pinned (OpenSpec.upto opsGuardsSpec)

/-- 'gnomonlaw04.OpsJoins', WHERE WHAT IT READS IS OF BULK AT MOST 1048576: true; the input reads as it did. -/
def opsJoinsUptoRow : OpenClaim := { program := "ytfffcmelkdmjaaadoor", sum := "40a6366649cf62bd9d66af7d501e375278cdda3053be3850064a8fee113f4c89", func := "gnomon/gnomonlaw04.OpsJoins", spec := "opsJoins", inPlace := ["internal/abi.NoEscape"], named := ["internal/strconv.uint64pow10", "math/bits.deBruijn32tab", "math/bits.deBruijn64tab"], apart := false, laid := [("math/bits.deBruijn32tab", laid_math_bits_deBruijn32tab), ("math/bits.deBruijn64tab", laid_math_bits_deBruijn64tab), ("internal/strconv.uint64pow10", laid_internal_strconv_uint64pow10)], narrowed := true }
def OpsJoinsUptoSaid : Prop := opsJoinsUptoRow.holds Tryd.pinned (OpenSpec.upto opsJoinsSpec)

/-- 'gnomonlaw04.OpsPoints', WHERE WHAT IT READS IS OF BULK AT MOST 1048576: true; the input reads as it did. -/
def opsPointsUptoRow : OpenClaim := { program := "ytfffcmelkdmjaaadoor", sum := "40a6366649cf62bd9d66af7d501e375278cdda3053be3850064a8fee113f4c89", func := "gnomon/gnomonlaw04.OpsPoints", spec := "opsPoints", inPlace := ["internal/abi.NoEscape"], named := ["internal/strconv.uint64pow10", "math/bits.deBruijn32tab", "math/bits.deBruijn64tab"], apart := false, laid := [("math/bits.deBruijn32tab", laid_math_bits_deBruijn32tab), ("math/bits.deBruijn64tab", laid_math_bits_deBruijn64tab), ("internal/strconv.uint64pow10", laid_internal_strconv_uint64pow10)], narrowed := true }
def OpsPointsUptoSaid : Prop := opsPointsUptoRow.holds Tryd.pinned (OpenSpec.upto opsPointsSpec)

/-- 'gnomonlaw04.OpsTwice', WHERE WHAT IT READS IS OF BULK AT MOST 1048576: true; the input reads as it did. -/
def opsTwiceUptoRow : OpenClaim := { program := "ytfffcmelkdmjaaadoor", sum := "40a6366649cf62bd9d66af7d501e375278cdda3053be3850064a8fee113f4c89", func := "gnomon/gnomonlaw04.OpsTwice", spec := "opsTwice", inPlace := ["internal/abi.NoEscape"], named := ["internal/strconv.uint64pow10", "math/bits.deBruijn32tab", "math/bits.deBruijn64tab"], apart := false, laid := [("math/bits.deBruijn32tab", laid_math_bits_deBruijn32tab), ("math/bits.deBruijn64tab", laid_math_bits_deBruijn64tab), ("internal/strconv.uint64pow10", laid_internal_strconv_uint64pow10)], narrowed := true }
def OpsTwiceUptoSaid : Prop := opsTwiceUptoRow.holds Tryd.pinned (OpenSpec.upto opsTwiceSpec)

/-- 'gnomonlaw04.OpsCells', WHERE WHAT IT READS IS OF BULK AT MOST 1048576: true; the input reads as it did. -/
def opsCellsUptoRow : OpenClaim := { program := "ytfffcmelkdmjaaadoor", sum := "40a6366649cf62bd9d66af7d501e375278cdda3053be3850064a8fee113f4c89", func := "gnomon/gnomonlaw04.OpsCells", spec := "opsCells", inPlace := ["internal/abi.NoEscape"], named := ["internal/strconv.uint64pow10", "math/bits.deBruijn32tab", "math/bits.deBruijn64tab"], apart := false, laid := [("math/bits.deBruijn32tab", laid_math_bits_deBruijn32tab), ("math/bits.deBruijn64tab", laid_math_bits_deBruijn64tab), ("internal/strconv.uint64pow10", laid_internal_strconv_uint64pow10)], narrowed := true }
def OpsCellsUptoSaid : Prop := opsCellsUptoRow.holds Tryd.pinned (OpenSpec.upto opsCellsSpec)

/-- 'gnomonlaw04.OpsHull', WHERE WHAT IT READS IS OF BULK AT MOST 1048576: true; the input reads as it did. -/
def opsHullUptoRow : OpenClaim := { program := "ytfffcmelkdmjaaadoor", sum := "40a6366649cf62bd9d66af7d501e375278cdda3053be3850064a8fee113f4c89", func := "gnomon/gnomonlaw04.OpsHull", spec := "opsHull", inPlace := ["internal/abi.NoEscape"], named := ["internal/strconv.uint64pow10", "math/bits.deBruijn32tab", "math/bits.deBruijn64tab"], apart := false, laid := [("math/bits.deBruijn32tab", laid_math_bits_deBruijn32tab), ("math/bits.deBruijn64tab", laid_math_bits_deBruijn64tab), ("internal/strconv.uint64pow10", laid_internal_strconv_uint64pow10)], narrowed := true }
def OpsHullUptoSaid : Prop := opsHullUptoRow.holds Tryd.pinned (OpenSpec.upto opsHullSpec)

/-- 'gnomonlaw04.OpsNone', WHERE WHAT IT READS IS OF BULK AT MOST 1048576: true; the input reads as it did. -/
def opsNoneUptoRow : OpenClaim := { program := "ytfffcmelkdmjaaadoor", sum := "40a6366649cf62bd9d66af7d501e375278cdda3053be3850064a8fee113f4c89", func := "gnomon/gnomonlaw04.OpsNone", spec := "opsNone", inPlace := ["internal/abi.NoEscape"], named := ["internal/strconv.uint64pow10", "math/bits.deBruijn32tab", "math/bits.deBruijn64tab"], apart := false, laid := [("math/bits.deBruijn32tab", laid_math_bits_deBruijn32tab), ("math/bits.deBruijn64tab", laid_math_bits_deBruijn64tab), ("internal/strconv.uint64pow10", laid_internal_strconv_uint64pow10)], narrowed := true }
def OpsNoneUptoSaid : Prop := opsNoneUptoRow.holds Tryd.pinned (OpenSpec.upto opsNoneSpec)

/-- 'gnomonlaw05.ExtraWidens', WHERE WHAT IT READS IS OF BULK AT MOST 1048576: true; the input reads as it did. -/
def extraWidensUptoRow : OpenClaim := { program := "ytfffcmelkdmjaaadoor", sum := "40a6366649cf62bd9d66af7d501e375278cdda3053be3850064a8fee113f4c89", func := "gnomon/gnomonlaw05.ExtraWidens", spec := "extraWidens", inPlace := ["internal/abi.NoEscape"], unfollowed := true, recurses := true, named := ["internal/strconv.uint64pow10", "math/bits.deBruijn32tab", "math/bits.deBruijn64tab"], apart := false, laid := [("math/bits.deBruijn32tab", laid_math_bits_deBruijn32tab), ("math/bits.deBruijn64tab", laid_math_bits_deBruijn64tab), ("internal/strconv.uint64pow10", laid_internal_strconv_uint64pow10)], narrowed := true }
def ExtraWidensUptoSaid : Prop := extraWidensUptoRow.holds Tryd.pinned (OpenSpec.upto extraWidensSpec)

/-- 'gnomonlaw05.ExtraGone', WHERE WHAT IT READS IS OF BULK AT MOST 1048576: true; the input reads as it did. -/
def extraGoneUptoRow : OpenClaim := { program := "ytfffcmelkdmjaaadoor", sum := "40a6366649cf62bd9d66af7d501e375278cdda3053be3850064a8fee113f4c89", func := "gnomon/gnomonlaw05.ExtraGone", spec := "extraGone", inPlace := ["internal/abi.NoEscape"], unfollowed := true, recurses := true, named := ["internal/strconv.uint64pow10", "math/bits.deBruijn32tab", "math/bits.deBruijn64tab"], apart := false, laid := [("math/bits.deBruijn32tab", laid_math_bits_deBruijn32tab), ("math/bits.deBruijn64tab", laid_math_bits_deBruijn64tab), ("internal/strconv.uint64pow10", laid_internal_strconv_uint64pow10)], narrowed := true }
def ExtraGoneUptoSaid : Prop := extraGoneUptoRow.holds Tryd.pinned (OpenSpec.upto extraGoneSpec)

/-- 'gnomonlaw05.ExtraWider', WHERE WHAT IT READS IS OF BULK AT MOST 1048576: true; the input reads as it did. -/
def extraWiderUptoRow : OpenClaim := { program := "ytfffcmelkdmjaaadoor", sum := "40a6366649cf62bd9d66af7d501e375278cdda3053be3850064a8fee113f4c89", func := "gnomon/gnomonlaw05.ExtraWider", spec := "extraWider", inPlace := ["internal/abi.NoEscape"], unfollowed := true, recurses := true, named := ["internal/strconv.uint64pow10", "math/bits.deBruijn32tab", "math/bits.deBruijn64tab"], apart := false, laid := [("math/bits.deBruijn32tab", laid_math_bits_deBruijn32tab), ("math/bits.deBruijn64tab", laid_math_bits_deBruijn64tab), ("internal/strconv.uint64pow10", laid_internal_strconv_uint64pow10)], narrowed := true }
def ExtraWiderUptoSaid : Prop := extraWiderUptoRow.holds Tryd.pinned (OpenSpec.upto extraWiderSpec)

/-- 'gnomonlaw05.ExtraPoints', WHERE WHAT IT READS IS OF BULK AT MOST 1048576: true; the input reads as it did. -/
def extraPointsUptoRow : OpenClaim := { program := "ytfffcmelkdmjaaadoor", sum := "40a6366649cf62bd9d66af7d501e375278cdda3053be3850064a8fee113f4c89", func := "gnomon/gnomonlaw05.ExtraPoints", spec := "extraPoints", inPlace := ["internal/abi.NoEscape"], unfollowed := true, recurses := true, named := ["internal/strconv.uint64pow10", "math/bits.deBruijn32tab", "math/bits.deBruijn64tab"], apart := false, laid := [("math/bits.deBruijn32tab", laid_math_bits_deBruijn32tab), ("math/bits.deBruijn64tab", laid_math_bits_deBruijn64tab), ("internal/strconv.uint64pow10", laid_internal_strconv_uint64pow10)], narrowed := true }
def ExtraPointsUptoSaid : Prop := extraPointsUptoRow.holds Tryd.pinned (OpenSpec.upto extraPointsSpec)

/-- 'gnomonlaw05.ExtraGuards', WHERE WHAT IT READS IS OF BULK AT MOST 1048576: true; the input reads as it did. -/
def extraGuardsUptoRow : OpenClaim := { program := "ytfffcmelkdmjaaadoor", sum := "40a6366649cf62bd9d66af7d501e375278cdda3053be3850064a8fee113f4c89", func := "gnomon/gnomonlaw05.ExtraGuards", spec := "extraGuards", inPlace := ["internal/abi.NoEscape"], unfollowed := true, recurses := true, named := ["internal/strconv.uint64pow10", "math/bits.deBruijn32tab", "math/bits.deBruijn64tab"], apart := false, laid := [("math/bits.deBruijn32tab", laid_math_bits_deBruijn32tab), ("math/bits.deBruijn64tab", laid_math_bits_deBruijn64tab), ("internal/strconv.uint64pow10", laid_internal_strconv_uint64pow10)], narrowed := true }
def ExtraGuardsUptoSaid : Prop := extraGuardsUptoRow.holds Tryd.pinned (OpenSpec.upto extraGuardsSpec)

/-- 'gnomonlaw05.ExtraSays', WHERE WHAT IT READS IS OF BULK AT MOST 1048576: true; the input reads as it did. -/
def extraSaysUptoRow : OpenClaim := { program := "ytfffcmelkdmjaaadoor", sum := "40a6366649cf62bd9d66af7d501e375278cdda3053be3850064a8fee113f4c89", func := "gnomon/gnomonlaw05.ExtraSays", spec := "extraSays", inPlace := ["internal/abi.NoEscape"], unfollowed := true, recurses := true, named := ["internal/strconv.uint64pow10", "math/bits.deBruijn32tab", "math/bits.deBruijn64tab"], apart := false, laid := [("math/bits.deBruijn32tab", laid_math_bits_deBruijn32tab), ("math/bits.deBruijn64tab", laid_math_bits_deBruijn64tab), ("internal/strconv.uint64pow10", laid_internal_strconv_uint64pow10)], narrowed := true }
def ExtraSaysUptoSaid : Prop := extraSaysUptoRow.holds Tryd.pinned (OpenSpec.upto extraSaysSpec)

/-- 'gnomonlaw05.ExtraNone', WHERE WHAT IT READS IS OF BULK AT MOST 1048576: true; the input reads as it did. -/
def extraNoneUptoRow : OpenClaim := { program := "ytfffcmelkdmjaaadoor", sum := "40a6366649cf62bd9d66af7d501e375278cdda3053be3850064a8fee113f4c89", func := "gnomon/gnomonlaw05.ExtraNone", spec := "extraNone", inPlace := ["internal/abi.NoEscape"], unfollowed := true, recurses := true, named := ["internal/strconv.uint64pow10", "math/bits.deBruijn32tab", "math/bits.deBruijn64tab"], apart := false, laid := [("math/bits.deBruijn32tab", laid_math_bits_deBruijn32tab), ("math/bits.deBruijn64tab", laid_math_bits_deBruijn64tab), ("internal/strconv.uint64pow10", laid_internal_strconv_uint64pow10)], narrowed := true }
def ExtraNoneUptoSaid : Prop := extraNoneUptoRow.holds Tryd.pinned (OpenSpec.upto extraNoneSpec)

end Rows
end Go.Proofs.YtfffcmelkdmjaaaDoor
