/-
  point.Wait.
-/
import Derived.Test.YtohkbjkfpnhggaaPtAz
namespace Go.Proofs.Ytohkbjkfpnhggaa
open Go.RowKit Go.Shelf
set_option linter.unusedVariables false
set_option maxRecDepth 100000
/-- Each later by a delay. -/
def waitL (L : Rats) (n d : Int) : Rats := ⟨L.q, fun k => (addT (L.n k) (L.d k) n d).1, fun k => (addT (L.n k) (L.d k) n d).2.1⟩
def WaitOut (w' : World) (base : Nat) (L : Rats) (n d : Int) (e : Ending) : Prop :=
  (∃ K, K < L.q ∧ (addT (L.n K) (L.d K) n d).2.2 ≠ 0 ∧ e = .returned (.tuple #[.slice none 0 0, .int .i64 (addT (L.n K) (L.d K) n d).2.2])) ∨
  ((∀ K, K < L.q → (addT (L.n K) (L.d K) n d).2.2 = 0) ∧ ∃ ad cap', e = .returned (.tuple #[.slice ad L.q cap', .int .i64 0]) ∧ (ad = none → L.q = 0 ∧ cap' = 0) ∧ RatV w' ad (waitL L n d) ∧ NewAt w' base ad L.q cap')
end Go.Proofs.Ytohkbjkfpnhggaa
