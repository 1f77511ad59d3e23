/-
  Lists of fractions that are handed over, opened.
-/
import Derived.Test.YtnfkmpickmonoaaGreatQ43
import Derived.Deep.Slices
import Derived.Deep.Strs
import Derived.ProofKit
import Derived.OpenShut
namespace Go.Proofs.YtnfkmpickmonoaaGreat
open Go.RowKit Go.Shelf
open Go.ChangeShapes Go.WideShapes Go.ChangeAt Go.Deep
set_option linter.unusedVariables false
/-- A slice that holds them. -/
def RatS (w : World) (v : Value) (L : Rats) : Prop := ∃ ad cap, v = .slice ad L.q cap ∧ (ad = none → L.q = 0 ∧ cap = 0) ∧ RatV w ad L
end Go.Proofs.YtnfkmpickmonoaaGreat
