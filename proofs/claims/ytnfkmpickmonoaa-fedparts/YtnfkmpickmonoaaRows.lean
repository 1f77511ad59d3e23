/-
  No cell of these rows narrows 'for every input' (looked for: loops, veiled, ifaces, maps, wideKeys, modest, calm, conditions, laid).
  DERIVED. THE GIVEN ROWS OF THIS SEAT. 3 by the template 'for every input the law returns true; each argument reads behind the call as it read before'; 0 by the template 'total and deterministic' (their statements: YtnfkmpickmonoaaTotals.lean).
  GIVEN WITH THE SEED: the statements are not yours to turn. If you find one false, say at which input.
  Laid BY PROGRAM, IN A SANDBOX (cutbox-rows.mjs): the forced cells as the released guide's own fill.sh prints them over the translation 1648c758e5562c62… (all of the seat's roots in one cut). By AI agents, Wed Nov 11 2026. No macro, syntax, notation, axiom, sorry.
-/
import Derived.Test.YtnfkmpickmonoaaChecked
import GoSem.Claim
import GoSem.ClaimJoined
import GoSem.ClaimMapViews
import Derived.JoinedTies
import Derived.KernelRfl
namespace Go.Proofs.Ytnfkmpickmonoaa
/- THE CELL 'sum', in the pinned program and in every row, IS THE sha256 OF THE DUMP (.gsa) THAT YtnfkmpickmonoaaProg.lean LOADS. Nothing in Lean hashes anything: it is a label: what it is worth is what the hold of that sum in a sandbox is worth. -/
noncomputable def Try.pinned : Pinned := { name := "ytnfkmpickmonoaa", sum := "1648c758e5562c62d297e8777c1c1332c17ae9715a1339a0dc8adfcadfcaf385", checked := Try.checked }
namespace Rows
def none {H : Type} : Left H := { results := [], args := [] }

/-- 'gnomonlaw07.FedPlays': WHATEVER THE INPUT: true; the input reads as it did. -/
def fedPlaysSpec : ChangeSpec := { name := "fedPlays", fn := fun _ => fun
  | [d1, d2, d3] => { results := [.lit (.bool true)], args := [d1, d2, d3] }
  | _ => none }
def fedPlaysRow : OpenClaim := { program := "ytnfkmpickmonoaa", sum := "1648c758e5562c62d297e8777c1c1332c17ae9715a1339a0dc8adfcadfcaf385", func := "gnomon/gnomonlaw07.FedPlays", spec := "fedPlays", unfollowed := true, recurses := true, apart := false }
def FedPlaysSaid : Prop := fedPlaysRow.holds Try.pinned (OpenSpec.ofChange fedPlaysSpec)

/-- ITS FALSE NEIGHBOUR: 'it returns false'. Refute it at one input. -/
def fedPlaysWrong : ChangeSpec := { name := "fedPlays", fn := fun _ => fun
  | [d1, d2, d3] => { results := [.lit (.bool false)], args := [d1, d2, d3] }
  | _ => none }
def FedPlaysWrongFalsely : Prop := fedPlaysRow.holds Try.pinned (OpenSpec.ofChange fedPlaysWrong)

/-- 'gnomonlaw07.FedParts': WHATEVER THE INPUT: true; the input reads as it did. -/
def fedPartsSpec : ChangeSpec := { name := "fedParts", fn := fun _ => fun
  | [d1, d2, d3] => { results := [.lit (.bool true)], args := [d1, d2, d3] }
  | _ => none }
def fedPartsRow : OpenClaim := { program := "ytnfkmpickmonoaa", sum := "1648c758e5562c62d297e8777c1c1332c17ae9715a1339a0dc8adfcadfcaf385", func := "gnomon/gnomonlaw07.FedParts", spec := "fedParts", unfollowed := true, recurses := true, apart := false }
def FedPartsSaid : Prop := fedPartsRow.holds Try.pinned (OpenSpec.ofChange fedPartsSpec)

/-- ITS FALSE NEIGHBOUR: 'it returns false'. Refute it at one input. -/
def fedPartsWrong : ChangeSpec := { name := "fedParts", fn := fun _ => fun
  | [d1, d2, d3] => { results := [.lit (.bool false)], args := [d1, d2, d3] }
  | _ => none }
def FedPartsWrongFalsely : Prop := fedPartsRow.holds Try.pinned (OpenSpec.ofChange fedPartsWrong)

/-- 'gnomonlaw07.FedOwn': WHATEVER THE INPUT: true; the input reads as it did. -/
def fedOwnSpec : ChangeSpec := { name := "fedOwn", fn := fun _ => fun
  | [d1, d2] => { results := [.lit (.bool true)], args := [d1, d2] }
  | _ => none }
def fedOwnRow : OpenClaim := { program := "ytnfkmpickmonoaa", sum := "1648c758e5562c62d297e8777c1c1332c17ae9715a1339a0dc8adfcadfcaf385", func := "gnomon/gnomonlaw07.FedOwn", spec := "fedOwn", unfollowed := true, recurses := true, apart := false }
def FedOwnSaid : Prop := fedOwnRow.holds Try.pinned (OpenSpec.ofChange fedOwnSpec)

/-- ITS FALSE NEIGHBOUR: 'it returns false'. Refute it at one input. -/
def fedOwnWrong : ChangeSpec := { name := "fedOwn", fn := fun _ => fun
  | [d1, d2] => { results := [.lit (.bool false)], args := [d1, d2] }
  | _ => none }
def FedOwnWrongFalsely : Prop := fedOwnRow.holds Try.pinned (OpenSpec.ofChange fedOwnWrong)

/- THE SECOND FORM. 'bulk': how many values and letters a reading holds, each counted each time it is reached (what is shared counts as often as it is met; a slice's spare places count too). A statement '..UptoSaid' is the law's where the arguments, and the package variables that the reading takes, are together of bulk at most 1048576: NARROWER than '..Said'. Prove '..Said' where nothing that the law and all that it calls make is longer than what came in: it says more and counts as full. Else prove '..UptoSaid'. A law counts once. -/
mutual
def uptoBulk {H : Type} : DataW H → Nat
  | .lit (.string bytes) => bytes.length + 1
  | .lit _ => 1
  | .nil => 1
  | .ptr d => uptoBulk d + 1
  | .slice elems spare => uptoBulkAll elems + uptoBulkAll spare + 1
  | .agg parts => uptoBulkAll parts + 1
  | .iface _ d => uptoBulk d + 1
  | .map entries => uptoBulkEntries entries + 1
  | .held _ => 1
def uptoBulkAll {H : Type} : List (DataW H) → Nat
  | [] => 0
  | d :: r => uptoBulk d + uptoBulkAll r
def uptoBulkEntries {H : Type} : List (Lit × DataW H) → Nat
  | [] => 0
  | x :: r => uptoBulkEntry x + uptoBulkEntries r
def uptoBulkEntry {H : Type} : Lit × DataW H → Nat
  | (.string bytes, d) => bytes.length + uptoBulk d + 1
  | (_, d) => uptoBulk d + 1
 end
def uptoSmall : (H : Type) → List (DataW H) → Bool := fun _ ds => decide (uptoBulkAll ds ≤ 1048576)
def OpenSpec.upto (s : _root_.Go.ChangeSpec) : _root_.Go.OpenSpec := { _root_.Go.OpenSpec.ofChange s with cond := some uptoSmall }

/-- 'gnomonlaw07.FedPlays', WHERE WHAT IT READS IS OF BULK AT MOST 1048576: true; the input reads as it did. -/
def fedPlaysUptoRow : OpenClaim := { program := "ytnfkmpickmonoaa", sum := "1648c758e5562c62d297e8777c1c1332c17ae9715a1339a0dc8adfcadfcaf385", func := "gnomon/gnomonlaw07.FedPlays", spec := "fedPlays", unfollowed := true, recurses := true, apart := false, narrowed := true }
def FedPlaysUptoSaid : Prop := fedPlaysUptoRow.holds Try.pinned (OpenSpec.upto fedPlaysSpec)

/-- 'gnomonlaw07.FedParts', WHERE WHAT IT READS IS OF BULK AT MOST 1048576: true; the input reads as it did. -/
def fedPartsUptoRow : OpenClaim := { program := "ytnfkmpickmonoaa", sum := "1648c758e5562c62d297e8777c1c1332c17ae9715a1339a0dc8adfcadfcaf385", func := "gnomon/gnomonlaw07.FedParts", spec := "fedParts", unfollowed := true, recurses := true, apart := false, narrowed := true }
def FedPartsUptoSaid : Prop := fedPartsUptoRow.holds Try.pinned (OpenSpec.upto fedPartsSpec)

/-- 'gnomonlaw07.FedOwn', WHERE WHAT IT READS IS OF BULK AT MOST 1048576: true; the input reads as it did. -/
def fedOwnUptoRow : OpenClaim := { program := "ytnfkmpickmonoaa", sum := "1648c758e5562c62d297e8777c1c1332c17ae9715a1339a0dc8adfcadfcaf385", func := "gnomon/gnomonlaw07.FedOwn", spec := "fedOwn", unfollowed := true, recurses := true, apart := false, narrowed := true }
def FedOwnUptoSaid : Prop := fedOwnUptoRow.holds Try.pinned (OpenSpec.upto fedOwnSpec)

end Rows
end Go.Proofs.Ytnfkmpickmonoaa
