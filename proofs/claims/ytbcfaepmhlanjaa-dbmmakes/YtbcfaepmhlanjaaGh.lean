/-
  The walk of the statement DbmMakes, as its frame asks for it.
-/
import Derived.Test.YtbcfaepmhlanjaaGg
namespace Go.Proofs.Ytbcfaepmhlanjaa
open Go.RowKit
set_option linter.unusedVariables false
namespace dbmMakes
theorem walk' (n : Int) (hn : (Lit.int .i64 n).wf = true) (v : Value) (l : List Int) (vl : Value) (L : Lims) (w : World) (hS : SliceAt w v l) (wf : ∀ z ∈ l, (Lit.int .i32 z).wf = true) (hby : l.length * 4 ≤ 140737488355328) (hnil : ∀ {c}, v = .slice none 0 c → c = 0) (hL : LimS w vl L) (hiL : ∀ k, k < L.q → -2147483648 ≤ L.b k ∧ L.b k ≤ 2147483647) (hbyL : L.q * 24 ≤ 140737488355328) (hnilL : ∀ {c}, vl = .slice none 0 c → c = 0) :
    Calls Try.prog 3 #[.int .i64 n, v, vl] w fun e w' => e = .returned (.bool true) ∧ Below w.heap.size w w' := walk n v l vl L w hS (wf_list wf) hby hnil hL hiL hbyL hnilL
end dbmMakes
end Go.Proofs.Ytbcfaepmhlanjaa
