/-
  fed: nil unions, nil zones.
-/
import Derived.Test.YtnfkmpickmonoaaGreatQ50
import Derived.Test.YtnfkmpickmonoaaGreatQ52
namespace Go.Proofs.YtnfkmpickmonoaaGreat
open Go.RowKit Go.Shelf
set_option linter.unusedVariables false
set_option maxRecDepth 100000
attribute [local go_sem] Oper.semAt_some
theorem fminus_no (f z : Value) (x : Int) (w : World) (hx : x ≠ 0) (H : ∀ W, Calls Tryz.prog 47 #[f, z] W fun e w' => e = .returned (.int .i64 x) ∧ w' = W) :
    Calls Tryz.prog 21 #[f, z] w fun e w' => e = .returned (.tuple #[.pointer none, .int .i64 x]) ∧ Below w.heap.size w w' := by
  have HH := hideD H
  have hx' : (x == 0) = false := by simpa using hx
  have B0 := hideD (below_one w (.cells #[.pointer none] 34))
  have B1 : Hid (Below w.heap.size w ((w.alloc (.cells #[.pointer none] 34)).alloc (.cells #[.int .i64 x] 35))) := Below.alloc B0.out (by simp) _
  clear H hx
  go_enter Tryz.func21, Tryz.ntmps21
  go_wp2_with fail
  refine (HH.out _).mono ?_
  rintro e w1 ⟨rfl, e1⟩
  obtain rfl := e1.symm
  clear e1 HH
  go_wp2_with fail
  refine bodyPost_ret (v := .tuple #[.pointer none, .int .i64 x]) (by simp [results, Tryz.results21, go_sem]) rfl ?_
  exact ⟨rfl, B1.out⟩
theorem fhas_nil (ad : Option Addr) (q cap : Nat) (w : World) : Calls Tryz.prog 12 #[.pointer none, .slice ad q cap] w fun e w' => e = .returned (.bool false) ∧ Below w.heap.size w w' := by
  have B1 := hideD (below_one w (.cells #[.slice ad q cap] 27))
  go_enter Tryz.func12, Tryz.ntmps12
  go_wp2_with fail
  go_ret
  exact ⟨rfl, B1.out⟩
theorem fsame_nil1 (v : Value) (w : World) : Calls Tryz.prog 16 #[.pointer none, v] w fun e w' => e = .returned (.bool false) ∧ Below w.heap.size w w' := by
  go_enter Tryz.func16, Tryz.ntmps16
  go_wp2_with fail
  go_ret
  exact ⟨rfl, Below.refl _ _⟩
theorem fsame_nil2 (f : Addr) (w : World) : Calls Tryz.prog 16 #[.pointer (some f), .pointer none] w fun e w' => e = .returned (.bool false) ∧ Below w.heap.size w w' := by
  go_enter Tryz.func16, Tryz.ntmps16
  go_wp2_with fail
  go_ret
  exact ⟨rfl, Below.refl _ _⟩
end Go.Proofs.YtnfkmpickmonoaaGreat
