/-
  fed.Meet.
-/
import Derived.Test.YtnfkmpickmonoaaGreatQ48
import Derived.Test.YtnfkmpickmonoaaGreatQ11
namespace Go.Proofs.YtnfkmpickmonoaaGreat
open Go.RowKit Go.Shelf
set_option linter.unusedVariables false
set_option maxRecDepth 100000
attribute [local go_sem] Oper.semAt_some
theorem fmeet_no (f z : Value) (x : Int) (w : World) (hx : x ≠ 0) (H : Calls Tryz.prog 47 #[f, z] w fun e w' => e = .returned (.int .i64 x) ∧ Below w.heap.size w w') :
    Calls Tryz.prog 22 #[f, z] w fun e w' => e = .returned (.tuple #[.pointer none, .int .i64 x]) ∧ Below w.heap.size w w' := by
  have HH := hideD H
  have hx' : (x == 0) = false := by simpa using hx
  clear H hx
  go_enter Tryz.func22, Tryz.ntmps22
  go_wp2_with fail
  refine HH.out.mono ?_
  rintro e w1 ⟨rfl, hb⟩
  have HB := hideD hb
  clear hb HH
  go_wp2_with fail
  refine bodyPost_ret (v := .tuple #[.pointer none, .int .i64 x]) (by simp [results, Tryz.results22, go_sem]) rfl ?_
  exact ⟨rfl, HB.out⟩
end Go.Proofs.YtnfkmpickmonoaaGreat

/-
  fed.Fewer.
-/
namespace Go.Proofs.YtnfkmpickmonoaaGreat
open Go.RowKit Go.Shelf
set_option linter.unusedVariables false
set_option maxRecDepth 100000
attribute [local go_sem] Oper.semAt_some
theorem ffewer_nil (w : World) : Calls Tryz.prog 20 #[.pointer none] w fun e w' => e = .returned (.pointer none) ∧ w' = w := by
  go_enter Tryz.func20, Tryz.ntmps20
  go_wp2_with fail
  go_ret
  exact ⟨rfl, rfl⟩
end Go.Proofs.YtnfkmpickmonoaaGreat
