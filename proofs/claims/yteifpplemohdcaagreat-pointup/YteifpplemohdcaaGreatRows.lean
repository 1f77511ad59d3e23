/-
  No cell of these rows narrows 'for every input' (looked for: loops, veiled, ifaces, maps, wideKeys, modest, calm, conditions, laid).
  DERIVED. THE GIVEN ROWS OF THIS SEAT. 3 by the template 'for every input the law returns true; each argument reads behind the call as it read before'; 0 by the template 'total and deterministic' (their statements: YteifpplemohdcaaGreatTotals.lean).
  GIVEN WITH THE SEED: the statements are not yours to turn. If you find one false, say at which input.
  Laid BY PROGRAM, IN A SANDBOX (cutbox-rows.mjs): the forced cells as the released guide's own fill.sh prints them over the translation fe5027fa628d2d9d… (all of the seat's roots in one cut). By AI agents, Wed Nov 11 2026. No macro, syntax, notation, axiom, sorry.
-/
import Derived.Test.YteifpplemohdcaaGreatChecked
import GoSem.Claim
import GoSem.ClaimJoined
import GoSem.ClaimMapViews
import Derived.JoinedTies
import Derived.KernelRfl
namespace Go.Proofs.YteifpplemohdcaaGreat
/- THE CELL 'sum', in the pinned program and in every row, IS THE sha256 OF THE DUMP (.gsa) THAT YteifpplemohdcaaGreatProg.lean LOADS. Nothing in Lean hashes anything: it is a label: what it is worth is what the hold of that sum in a sandbox is worth. -/
noncomputable def Tryz.pinned : Pinned := { name := "yteifpplemohdcaagreat", sum := "fe5027fa628d2d9d3ed7e2a2b9bc799a5aad3dbc6c06226d0e4ecc3b594c5db5", checked := Tryz.checked }
namespace Rows
def none {H : Type} : Left H := { results := [], args := [] }

/-- 'gnomonlaw06.PointMoves': WHATEVER THE INPUT: true; the input reads as it did. -/
def pointMovesSpec : ChangeSpec := { name := "pointMoves", fn := fun _ => fun
  | [d] => { results := [.lit (.bool true)], args := [d] }
  | _ => none }
def pointMovesRow : OpenClaim := { program := "yteifpplemohdcaagreat", sum := "fe5027fa628d2d9d3ed7e2a2b9bc799a5aad3dbc6c06226d0e4ecc3b594c5db5", func := "gnomon/gnomonlaw06.PointMoves", spec := "pointMoves", inPlace := ["math/bits.Add64", "math/bits.Sub64"], unfollowed := true, recurses := true, named := ["math/bits.divideError", "math/bits.overflowError"], apart := false }
def PointMovesSaid : Prop := pointMovesRow.holds Tryz.pinned (OpenSpec.ofChange pointMovesSpec)

/-- ITS FALSE NEIGHBOUR: 'it returns false'. Refute it at one input. -/
def pointMovesWrong : ChangeSpec := { name := "pointMoves", fn := fun _ => fun
  | [d] => { results := [.lit (.bool false)], args := [d] }
  | _ => none }
def PointMovesWrongFalsely : Prop := pointMovesRow.holds Tryz.pinned (OpenSpec.ofChange pointMovesWrong)

/-- 'gnomonlaw06.PointLeast': WHATEVER THE INPUT: true; the input reads as it did. -/
def pointLeastSpec : ChangeSpec := { name := "pointLeast", fn := fun _ => fun
  | [d1, d2] => { results := [.lit (.bool true)], args := [d1, d2] }
  | _ => none }
def pointLeastRow : OpenClaim := { program := "yteifpplemohdcaagreat", sum := "fe5027fa628d2d9d3ed7e2a2b9bc799a5aad3dbc6c06226d0e4ecc3b594c5db5", func := "gnomon/gnomonlaw06.PointLeast", spec := "pointLeast", inPlace := ["math/bits.Sub64", "math/bits.Add64"], unfollowed := true, recurses := true, named := ["math/bits.divideError", "math/bits.overflowError"], apart := false }
def PointLeastSaid : Prop := pointLeastRow.holds Tryz.pinned (OpenSpec.ofChange pointLeastSpec)

/-- ITS FALSE NEIGHBOUR: 'it returns false'. Refute it at one input. -/
def pointLeastWrong : ChangeSpec := { name := "pointLeast", fn := fun _ => fun
  | [d1, d2] => { results := [.lit (.bool false)], args := [d1, d2] }
  | _ => none }
def PointLeastWrongFalsely : Prop := pointLeastRow.holds Tryz.pinned (OpenSpec.ofChange pointLeastWrong)

/-- 'gnomonlaw06.PointUp': WHATEVER THE INPUT: true; the input reads as it did. -/
def pointUpSpec : ChangeSpec := { name := "pointUp", fn := fun _ => fun
  | [d1, d2, d3] => { results := [.lit (.bool true)], args := [d1, d2, d3] }
  | _ => none }
def pointUpRow : OpenClaim := { program := "yteifpplemohdcaagreat", sum := "fe5027fa628d2d9d3ed7e2a2b9bc799a5aad3dbc6c06226d0e4ecc3b594c5db5", func := "gnomon/gnomonlaw06.PointUp", spec := "pointUp", inPlace := ["math/bits.Add64", "math/bits.Sub64"], unfollowed := true, recurses := true, named := ["math/bits.divideError", "math/bits.overflowError"], apart := false }
def PointUpSaid : Prop := pointUpRow.holds Tryz.pinned (OpenSpec.ofChange pointUpSpec)

/-- ITS FALSE NEIGHBOUR: 'it returns false'. Refute it at one input. -/
def pointUpWrong : ChangeSpec := { name := "pointUp", fn := fun _ => fun
  | [d1, d2, d3] => { results := [.lit (.bool false)], args := [d1, d2, d3] }
  | _ => none }
def PointUpWrongFalsely : Prop := pointUpRow.holds Tryz.pinned (OpenSpec.ofChange pointUpWrong)

/- THE SECOND FORM. 'bulk': how many values and letters a reading holds, each counted each time it is reached (what is shared counts as often as it is met; a slice's spare places count too). A statement '..UptoSaid' is the law's where the arguments, and the package variables that the reading takes, are together of bulk at most 1048576: NARROWER than '..Said'. Prove '..Said' where nothing that the law and all that it calls make is longer than what came in: it says more and counts as full. Else prove '..UptoSaid'. A law counts once. -/
mutual
def uptoBulk {H : Type} : DataW H → Nat
  | .lit (.string bytes) => bytes.length + 1
  | .lit _ => 1
  | .nil => 1
  | .ptr d => uptoBulk d + 1
  | .slice elems spare => uptoBulkAll elems + uptoBulkAll spare + 1
  | .agg parts => uptoBulkAll parts + 1
  | .iface _ d => uptoBulk d + 1
  | .map entries => uptoBulkEntries entries + 1
  | .held _ => 1
def uptoBulkAll {H : Type} : List (DataW H) → Nat
  | [] => 0
  | d :: r => uptoBulk d + uptoBulkAll r
def uptoBulkEntries {H : Type} : List (Lit × DataW H) → Nat
  | [] => 0
  | x :: r => uptoBulkEntry x + uptoBulkEntries r
def uptoBulkEntry {H : Type} : Lit × DataW H → Nat
  | (.string bytes, d) => bytes.length + uptoBulk d + 1
  | (_, d) => uptoBulk d + 1
 end
def uptoSmall : (H : Type) → List (DataW H) → Bool := fun _ ds => decide (uptoBulkAll ds ≤ 1048576)
def OpenSpec.upto (s : _root_.Go.ChangeSpec) : _root_.Go.OpenSpec := { _root_.Go.OpenSpec.ofChange s with cond := some uptoSmall }

/-- 'gnomonlaw06.PointMoves', WHERE WHAT IT READS IS OF BULK AT MOST 1048576: true; the input reads as it did. -/
def pointMovesUptoRow : OpenClaim := { program := "yteifpplemohdcaagreat", sum := "fe5027fa628d2d9d3ed7e2a2b9bc799a5aad3dbc6c06226d0e4ecc3b594c5db5", func := "gnomon/gnomonlaw06.PointMoves", spec := "pointMoves", inPlace := ["math/bits.Add64", "math/bits.Sub64"], unfollowed := true, recurses := true, named := ["math/bits.divideError", "math/bits.overflowError"], apart := false, narrowed := true }
def PointMovesUptoSaid : Prop := pointMovesUptoRow.holds Tryz.pinned (OpenSpec.upto pointMovesSpec)

/-- 'gnomonlaw06.PointLeast', WHERE WHAT IT READS IS OF BULK AT MOST 1048576: true; the input reads as it did. -/
def pointLeastUptoRow : OpenClaim := { program := "yteifpplemohdcaagreat", sum := "fe5027fa628d2d9d3ed7e2a2b9bc799a5aad3dbc6c06226d0e4ecc3b594c5db5", func := "gnomon/gnomonlaw06.PointLeast", spec := "pointLeast", inPlace := ["math/bits.Sub64", "math/bits.Add64"], unfollowed := true, recurses := true, named := ["math/bits.divideError", "math/bits.overflowError"], apart := false, narrowed := true }
def PointLeastUptoSaid : Prop := pointLeastUptoRow.holds Tryz.pinned (OpenSpec.upto pointLeastSpec)

/-- 'gnomonlaw06.PointUp', WHERE WHAT IT READS IS OF BULK AT MOST 1048576: true; the input reads as it did. -/
def pointUpUptoRow : OpenClaim := { program := "yteifpplemohdcaagreat", sum := "fe5027fa628d2d9d3ed7e2a2b9bc799a5aad3dbc6c06226d0e4ecc3b594c5db5", func := "gnomon/gnomonlaw06.PointUp", spec := "pointUp", inPlace := ["math/bits.Add64", "math/bits.Sub64"], unfollowed := true, recurses := true, named := ["math/bits.divideError", "math/bits.overflowError"], apart := false, narrowed := true }
def PointUpUptoSaid : Prop := pointUpUptoRow.holds Tryz.pinned (OpenSpec.upto pointUpSpec)

end Rows
end Go.Proofs.YteifpplemohdcaaGreat
