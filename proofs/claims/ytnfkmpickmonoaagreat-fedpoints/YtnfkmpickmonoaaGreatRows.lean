/-
  No cell of these rows narrows 'for every input' (looked for: loops, veiled, ifaces, maps, wideKeys, modest, calm, conditions, laid).
  DERIVED. THE GIVEN ROWS OF THIS SEAT. 3 by the template 'for every input the law returns true; each argument reads behind the call as it read before'; 0 by the template 'total and deterministic' (their statements: YtnfkmpickmonoaaGreatTotals.lean).
  GIVEN WITH THE SEED: the statements are not yours to turn. If you find one false, say at which input.
  Laid BY PROGRAM, IN A SANDBOX (cutbox-rows.mjs): the forced cells as the released guide's own fill.sh prints them over the translation 48ea8d59971dd5f3… (all of the seat's roots in one cut). By AI agents, Wed Nov 11 2026. No macro, syntax, notation, axiom, sorry.
-/
import Derived.Test.YtnfkmpickmonoaaGreatChecked
import GoSem.Claim
import GoSem.ClaimJoined
import GoSem.ClaimMapViews
import Derived.JoinedTies
import Derived.KernelRfl
namespace Go.Proofs.YtnfkmpickmonoaaGreat
/- THE CELL 'sum', in the pinned program and in every row, IS THE sha256 OF THE DUMP (.gsa) THAT YtnfkmpickmonoaaGreatProg.lean LOADS. Nothing in Lean hashes anything: it is a label: what it is worth is what the hold of that sum in a sandbox is worth. -/
noncomputable def Tryz.pinned : Pinned := { name := "ytnfkmpickmonoaagreat", sum := "48ea8d59971dd5f3045964cafd2b28514bf55f1916f58eb64b92e014c8178d3b", checked := Tryz.checked }
namespace Rows
def none {H : Type} : Left H := { results := [], args := [] }

/-- 'gnomonlaw07.FedAsks': WHATEVER THE INPUT: true; the input reads as it did. -/
def fedAsksSpec : ChangeSpec := { name := "fedAsks", fn := fun _ => fun
  | [d1, d2, d3] => { results := [.lit (.bool true)], args := [d1, d2, d3] }
  | _ => none }
def fedAsksRow : OpenClaim := { program := "ytnfkmpickmonoaagreat", sum := "48ea8d59971dd5f3045964cafd2b28514bf55f1916f58eb64b92e014c8178d3b", func := "gnomon/gnomonlaw07.FedAsks", spec := "fedAsks", inPlace := ["math/bits.Add64", "math/bits.Sub64"], unfollowed := true, recurses := true, apart := false }
def FedAsksSaid : Prop := fedAsksRow.holds Tryz.pinned (OpenSpec.ofChange fedAsksSpec)

/-- ITS FALSE NEIGHBOUR: 'it returns false'. Refute it at one input. -/
def fedAsksWrong : ChangeSpec := { name := "fedAsks", fn := fun _ => fun
  | [d1, d2, d3] => { results := [.lit (.bool false)], args := [d1, d2, d3] }
  | _ => none }
def FedAsksWrongFalsely : Prop := fedAsksRow.holds Tryz.pinned (OpenSpec.ofChange fedAsksWrong)

/-- 'gnomonlaw07.FedPoints': WHATEVER THE INPUT: true; the input reads as it did. -/
def fedPointsSpec : ChangeSpec := { name := "fedPoints", fn := fun _ => fun
  | [d1, d2, d3] => { results := [.lit (.bool true)], args := [d1, d2, d3] }
  | _ => none }
def fedPointsRow : OpenClaim := { program := "ytnfkmpickmonoaagreat", sum := "48ea8d59971dd5f3045964cafd2b28514bf55f1916f58eb64b92e014c8178d3b", func := "gnomon/gnomonlaw07.FedPoints", spec := "fedPoints", inPlace := ["math/bits.Add64", "math/bits.Sub64"], unfollowed := true, recurses := true, apart := false }
def FedPointsSaid : Prop := fedPointsRow.holds Tryz.pinned (OpenSpec.ofChange fedPointsSpec)

/-- ITS FALSE NEIGHBOUR: 'it returns false'. Refute it at one input. -/
def fedPointsWrong : ChangeSpec := { name := "fedPoints", fn := fun _ => fun
  | [d1, d2, d3] => { results := [.lit (.bool false)], args := [d1, d2, d3] }
  | _ => none }
def FedPointsWrongFalsely : Prop := fedPointsRow.holds Tryz.pinned (OpenSpec.ofChange fedPointsWrong)

/-- 'gnomonlaw07.FedNone': WHATEVER THE INPUT: true; the input reads as it did. -/
def fedNoneSpec : ChangeSpec := { name := "fedNone", fn := fun _ => fun
  | [d] => { results := [.lit (.bool true)], args := [d] }
  | _ => none }
def fedNoneRow : OpenClaim := { program := "ytnfkmpickmonoaagreat", sum := "48ea8d59971dd5f3045964cafd2b28514bf55f1916f58eb64b92e014c8178d3b", func := "gnomon/gnomonlaw07.FedNone", spec := "fedNone", inPlace := ["math/bits.Add64", "math/bits.Sub64"], unfollowed := true, recurses := true, apart := false }
def FedNoneSaid : Prop := fedNoneRow.holds Tryz.pinned (OpenSpec.ofChange fedNoneSpec)

/-- ITS FALSE NEIGHBOUR: 'it returns false'. Refute it at one input. -/
def fedNoneWrong : ChangeSpec := { name := "fedNone", fn := fun _ => fun
  | [d] => { results := [.lit (.bool false)], args := [d] }
  | _ => none }
def FedNoneWrongFalsely : Prop := fedNoneRow.holds Tryz.pinned (OpenSpec.ofChange fedNoneWrong)

/- THE SECOND FORM. 'bulk': how many values and letters a reading holds, each counted each time it is reached (what is shared counts as often as it is met; a slice's spare places count too). A statement '..UptoSaid' is the law's where the arguments, and the package variables that the reading takes, are together of bulk at most 1048576: NARROWER than '..Said'. Prove '..Said' where nothing that the law and all that it calls make is longer than what came in: it says more and counts as full. Else prove '..UptoSaid'. A law counts once. -/
mutual
def uptoBulk {H : Type} : DataW H → Nat
  | .lit (.string bytes) => bytes.length + 1
  | .lit _ => 1
  | .nil => 1
  | .ptr d => uptoBulk d + 1
  | .slice elems spare => uptoBulkAll elems + uptoBulkAll spare + 1
  | .agg parts => uptoBulkAll parts + 1
  | .iface _ d => uptoBulk d + 1
  | .map entries => uptoBulkEntries entries + 1
  | .held _ => 1
def uptoBulkAll {H : Type} : List (DataW H) → Nat
  | [] => 0
  | d :: r => uptoBulk d + uptoBulkAll r
def uptoBulkEntries {H : Type} : List (Lit × DataW H) → Nat
  | [] => 0
  | x :: r => uptoBulkEntry x + uptoBulkEntries r
def uptoBulkEntry {H : Type} : Lit × DataW H → Nat
  | (.string bytes, d) => bytes.length + uptoBulk d + 1
  | (_, d) => uptoBulk d + 1
 end
def uptoSmall : (H : Type) → List (DataW H) → Bool := fun _ ds => decide (uptoBulkAll ds ≤ 1048576)
def OpenSpec.upto (s : _root_.Go.ChangeSpec) : _root_.Go.OpenSpec := { _root_.Go.OpenSpec.ofChange s with cond := some uptoSmall }

/-- 'gnomonlaw07.FedAsks', WHERE WHAT IT READS IS OF BULK AT MOST 1048576: true; the input reads as it did. -/
def fedAsksUptoRow : OpenClaim := { program := "ytnfkmpickmonoaagreat", sum := "48ea8d59971dd5f3045964cafd2b28514bf55f1916f58eb64b92e014c8178d3b", func := "gnomon/gnomonlaw07.FedAsks", spec := "fedAsks", inPlace := ["math/bits.Add64", "math/bits.Sub64"], unfollowed := true, recurses := true, apart := false, narrowed := true }
def FedAsksUptoSaid : Prop := fedAsksUptoRow.holds Tryz.pinned (OpenSpec.upto fedAsksSpec)

/-- 'gnomonlaw07.FedPoints', WHERE WHAT IT READS IS OF BULK AT MOST 1048576: true; the input reads as it did. -/
def fedPointsUptoRow : OpenClaim := { program := "ytnfkmpickmonoaagreat", sum := "48ea8d59971dd5f3045964cafd2b28514bf55f1916f58eb64b92e014c8178d3b", func := "gnomon/gnomonlaw07.FedPoints", spec := "fedPoints", inPlace := ["math/bits.Add64", "math/bits.Sub64"], unfollowed := true, recurses := true, apart := false, narrowed := true }
def FedPointsUptoSaid : Prop := fedPointsUptoRow.holds Tryz.pinned (OpenSpec.upto fedPointsSpec)

/-- 'gnomonlaw07.FedNone', WHERE WHAT IT READS IS OF BULK AT MOST 1048576: true; the input reads as it did. -/
def fedNoneUptoRow : OpenClaim := { program := "ytnfkmpickmonoaagreat", sum := "48ea8d59971dd5f3045964cafd2b28514bf55f1916f58eb64b92e014c8178d3b", func := "gnomon/gnomonlaw07.FedNone", spec := "fedNone", inPlace := ["math/bits.Add64", "math/bits.Sub64"], unfollowed := true, recurses := true, apart := false, narrowed := true }
def FedNoneUptoSaid : Prop := fedNoneUptoRow.holds Tryz.pinned (OpenSpec.upto fedNoneSpec)

end Rows
end Go.Proofs.YtnfkmpickmonoaaGreat
