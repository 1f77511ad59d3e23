/-
  No cell of these rows narrows 'for every input' (looked for: loops, veiled, ifaces, maps, wideKeys, modest, calm, conditions, laid).
  DERIVED. THE GIVEN ROWS OF THIS SEAT. 2 by the template 'for every input the law returns true; each argument reads behind the call as it read before'; 0 by the template 'total and deterministic' (their statements: YtbcfaepmhlanjaaTotals.lean).
  GIVEN WITH THE SEED: the statements are not yours to turn. If you find one false, say at which input.
  Laid BY PROGRAM, IN A SANDBOX (cutbox-rows.mjs): the forced cells as the released guide's own fill.sh prints them over the translation 84179fc4f78037c5… (all of the seat's roots in one cut). By AI agents, Wed Nov 11 2026. No macro, syntax, notation, axiom, sorry.
-/
import Derived.Test.YtbcfaepmhlanjaaChecked
import GoSem.Claim
import GoSem.ClaimJoined
import GoSem.ClaimMapViews
import Derived.JoinedTies
import Derived.KernelRfl
namespace Go.Proofs.Ytbcfaepmhlanjaa
/- THE CELL 'sum', in the pinned program and in every row, IS THE sha256 OF THE DUMP (.gsa) THAT YtbcfaepmhlanjaaProg.lean LOADS. Nothing in Lean hashes anything: it is a label: what it is worth is what the hold of that sum in a sandbox is worth. -/
noncomputable def Try.pinned : Pinned := { name := "ytbcfaepmhlanjaa", sum := "84179fc4f78037c555f2e24cc0f406446fc0d32bee239105b0d0ec5aa30cc372", checked := Try.checked }
namespace Rows
def none {H : Type} : Left H := { results := [], args := [] }

/-- 'gnomonlaw03.DbmMakes': WHATEVER THE INPUT: true; the input reads as it did. -/
def dbmMakesSpec : ChangeSpec := { name := "dbmMakes", fn := fun _ => fun
  | [d1, d2, d3] => { results := [.lit (.bool true)], args := [d1, d2, d3] }
  | _ => none }
def dbmMakesRow : OpenClaim := { program := "ytbcfaepmhlanjaa", sum := "84179fc4f78037c555f2e24cc0f406446fc0d32bee239105b0d0ec5aa30cc372", func := "gnomon/gnomonlaw03.DbmMakes", spec := "dbmMakes", apart := false }
def DbmMakesSaid : Prop := dbmMakesRow.holds Try.pinned (OpenSpec.ofChange dbmMakesSpec)

/-- ITS FALSE NEIGHBOUR: 'it returns false'. Refute it at one input. -/
def dbmMakesWrong : ChangeSpec := { name := "dbmMakes", fn := fun _ => fun
  | [d1, d2, d3] => { results := [.lit (.bool false)], args := [d1, d2, d3] }
  | _ => none }
def DbmMakesWrongFalsely : Prop := dbmMakesRow.holds Try.pinned (OpenSpec.ofChange dbmMakesWrong)

/-- 'gnomonlaw03.DbmCompares': WHATEVER THE INPUT: true; the input reads as it did. -/
def dbmComparesSpec : ChangeSpec := { name := "dbmCompares", fn := fun _ => fun
  | [d1, d2, d3] => { results := [.lit (.bool true)], args := [d1, d2, d3] }
  | _ => none }
def dbmComparesRow : OpenClaim := { program := "ytbcfaepmhlanjaa", sum := "84179fc4f78037c555f2e24cc0f406446fc0d32bee239105b0d0ec5aa30cc372", func := "gnomon/gnomonlaw03.DbmCompares", spec := "dbmCompares", apart := false }
def DbmComparesSaid : Prop := dbmComparesRow.holds Try.pinned (OpenSpec.ofChange dbmComparesSpec)

/-- ITS FALSE NEIGHBOUR: 'it returns false'. Refute it at one input. -/
def dbmComparesWrong : ChangeSpec := { name := "dbmCompares", fn := fun _ => fun
  | [d1, d2, d3] => { results := [.lit (.bool false)], args := [d1, d2, d3] }
  | _ => none }
def DbmComparesWrongFalsely : Prop := dbmComparesRow.holds Try.pinned (OpenSpec.ofChange dbmComparesWrong)

/- THE SECOND FORM. 'bulk': how many values and letters a reading holds, each counted each time it is reached (what is shared counts as often as it is met; a slice's spare places count too). A statement '..UptoSaid' is the law's where the arguments, and the package variables that the reading takes, are together of bulk at most 1048576: NARROWER than '..Said'. Prove '..Said' where nothing that the law and all that it calls make is longer than what came in: it says more and counts as full. Else prove '..UptoSaid'. A law counts once. -/
mutual
def uptoBulk {H : Type} : DataW H → Nat
  | .lit (.string bytes) => bytes.length + 1
  | .lit _ => 1
  | .nil => 1
  | .ptr d => uptoBulk d + 1
  | .slice elems spare => uptoBulkAll elems + uptoBulkAll spare + 1
  | .agg parts => uptoBulkAll parts + 1
  | .iface _ d => uptoBulk d + 1
  | .map entries => uptoBulkEntries entries + 1
  | .held _ => 1
def uptoBulkAll {H : Type} : List (DataW H) → Nat
  | [] => 0
  | d :: r => uptoBulk d + uptoBulkAll r
def uptoBulkEntries {H : Type} : List (Lit × DataW H) → Nat
  | [] => 0
  | x :: r => uptoBulkEntry x + uptoBulkEntries r
def uptoBulkEntry {H : Type} : Lit × DataW H → Nat
  | (.string bytes, d) => bytes.length + uptoBulk d + 1
  | (_, d) => uptoBulk d + 1
 end
def uptoSmall : (H : Type) → List (DataW H) → Bool := fun _ ds => decide (uptoBulkAll ds ≤ 1048576)
def OpenSpec.upto (s : _root_.Go.ChangeSpec) : _root_.Go.OpenSpec := { _root_.Go.OpenSpec.ofChange s with cond := some uptoSmall }

/-- 'gnomonlaw03.DbmMakes', WHERE WHAT IT READS IS OF BULK AT MOST 1048576: true; the input reads as it did. -/
def dbmMakesUptoRow : OpenClaim := { program := "ytbcfaepmhlanjaa", sum := "84179fc4f78037c555f2e24cc0f406446fc0d32bee239105b0d0ec5aa30cc372", func := "gnomon/gnomonlaw03.DbmMakes", spec := "dbmMakes", apart := false, narrowed := true }
def DbmMakesUptoSaid : Prop := dbmMakesUptoRow.holds Try.pinned (OpenSpec.upto dbmMakesSpec)

/-- 'gnomonlaw03.DbmCompares', WHERE WHAT IT READS IS OF BULK AT MOST 1048576: true; the input reads as it did. -/
def dbmComparesUptoRow : OpenClaim := { program := "ytbcfaepmhlanjaa", sum := "84179fc4f78037c555f2e24cc0f406446fc0d32bee239105b0d0ec5aa30cc372", func := "gnomon/gnomonlaw03.DbmCompares", spec := "dbmCompares", apart := false, narrowed := true }
def DbmComparesUptoSaid : Prop := dbmComparesUptoRow.holds Try.pinned (OpenSpec.upto dbmComparesSpec)

end Rows
end Go.Proofs.Ytbcfaepmhlanjaa
