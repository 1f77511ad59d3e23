/-
  The contracts of ops: Reset, Free.
-/
import Derived.Test.YtnfkmpickmonoaaGreatQ19
namespace Go.Proofs.YtnfkmpickmonoaaGreat
open Go.RowKit
set_option linter.unusedVariables false
set_option maxRecDepth 100000
def limM (r : Mat) (i j : Nat) (v : Int) : Mat := upd r i j (min (r i j) v)
theorem limM_32 {r : Mat} (h : R32 r) {i j : Nat} {v : Int} (h0 : -2147483648 ≤ v) : R32 (limM r i j v) := h.upd (by have := (h i j).1; omega) (by have := (h i j).2; omega)
end Go.Proofs.YtnfkmpickmonoaaGreat
