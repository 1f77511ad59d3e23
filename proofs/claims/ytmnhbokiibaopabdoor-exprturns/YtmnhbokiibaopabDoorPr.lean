/-
  The walk of ExprTurns, over what is handed over.
-/
import Derived.Test.YtmnhbokiibaopabDoorPp
import Derived.Test.YtmnhbokiibaopabDoorQa
namespace Go.Proofs.YtmnhbokiibaopabDoor
open Go.RowKit
set_option linter.unusedVariables false
theorem exprTurns.walk (v0 : Value) (a : List Node) (v1 : Value) (b : List Node) (v2 : Value) (vs : List Int) (w : World) (hT : OpsT w) (hP : Pow w) (h0 : NodeS w v0 a) (wf0 : ∀ n ∈ a, n.1 < 256 ∧ inR n.2) (by0 : a.length * 16 ≤ 140737488355328) (h1 : NodeS w v1 b) (wf1 : ∀ n ∈ b, n.1 < 256 ∧ inR n.2) (by1 : b.length * 16 ≤ 140737488355328) (h2 : IntS w v2 vs) (wf2 : ∀ n ∈ vs, inR n) (by2 : vs.length * 8 ≤ 140737488355328) :
    Calls Tryd.prog 4 #[v0, v1, v2] w fun e w' => e = .returned (.bool true) ∧ Below w.heap.size w w' := by
  obtain ⟨ad0, c0, rfl, r0⟩ := h0
  obtain ⟨ad1, c1, rfl, r1⟩ := h1
  obtain ⟨ad2, c2, rfl, r2⟩ := h2
  exact exprTurns.inner ad0 c0 a ad1 c1 b ad2 c2 vs w hT hP r0 (fun n hn => (wf0 n hn).1) r1 (fun n hn => (wf1 n hn).1) r2 wf2 by0 by1
end Go.Proofs.YtmnhbokiibaopabDoor
