/-
  The document's All.
-/
import Derived.Test.YtdofnjlnleofjaaDoorMj
import Derived.Test.YtdofnjlnleofjaaDoorMd
namespace Go.Proofs.YtdofnjlnleofjaaDoor
open Go.RowKit
set_option linter.unusedVariables false
abbrev itemCX (x : Item) : List Value := [.int .i64 x.1, .string x.2.1, .int .i64 x.2.2.1, .int .i64 x.2.2.2.1]
def cellsX (l : List Item) : List Value := l.flatMap itemCX
theorem cellsX_snoc (l : List Item) (x : Item) : cellsX (l ++ [x]) = cellsX l ++ itemCX x := by simp [cellsX]
theorem row_below {W W' : World} {base : Nat} {e : TypeId} {size n : Nat} {v : Value} {xs : List Value} (h : W.ownsRow base e size v n xs) (hb : Below W.heap.size W W') : W'.ownsRow base e size v n xs :=
  h.kept (grown_below hb (Nat.le_refl _)) (by cases hv : v.ownBlock <;> simp)
end Go.Proofs.YtdofnjlnleofjaaDoor
