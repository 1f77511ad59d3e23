/-
  fed: both News over both rows; what stays when a row of pointers is cleared.
-/
import Derived.Test.YtnfkmpickmonoaaQ40
import Derived.Test.YtnfkmpickmonoaaQ34
namespace Go.Proofs.Ytnfkmpickmonoaa
open Go.RowKit Go.Shelf
set_option linter.unusedVariables false
set_option maxRecDepth 100000
attribute [local go_sem] Oper.semAt_some
theorem rnew_empty (n m : Nat) (w : World) (hn : n ≤ 8) : Calls Try.prog 10 #[.int .i64 (n : Int), .slice none 0 0] w fun e w' => RNewOut n m [] e w' ∧ Below w.heap.size w w' := by
  have n8 : (n : Int) ≤ 8 := by omega
  have n0 : ¬ (n : Int) < 0 := by omega
  have n9 : ¬ (8 : Int) < (n : Int) := by omega
  have B1 := hideD (below_one w (.cells #[.int .i64 (n : Int), .slice none 0 0] 83))
  have F : Hid (RFedAt (w.alloc (.cells #[.int .i64 (n : Int), .slice none 0 0] 83)) w.heap.size n m []) :=
    ⟨by simp [go_sem], ⟨.slice none 0 0, by simp [go_sem], World.ownsRow_nil _ _ _ _⟩, fun e he => by (cases he), by simp⟩
  go_enter Try.func10, Try.ntmps10
  go_wp2_with fail
  go_loopw [7] (fun i wr => i = .int .i64 0 ∧ Hid (wr = w.alloc (.cells #[.int .i64 (n : Int), .slice none 0 0] 83))) (fun _ _ => 0)
  case atStart => exact ⟨rfl, rfl⟩
  case round =>
    obtain ⟨rfl, B⟩ := hrel
    have eB := B.out
    subst eB
    clear B
    go_wp2_with fail
    go_loopw [8] (fun i wr => i = .int .i64 0 ∧ Hid (wr = w.alloc (.cells #[.int .i64 (n : Int), .slice none 0 0] 83))) (fun _ _ => 0)
    case atStart => exact ⟨rfl, rfl⟩
    case round =>
      obtain ⟨rfl, B⟩ := hrel
      have eB := B.out
      subst eB
      clear B
      go_wp2_with fail
      go_loopw [9] (fun i wr => i = .int .i64 0 ∧ Hid (wr = w.alloc (.cells #[.int .i64 (n : Int), .slice none 0 0] 83))) (fun _ _ => 0)
      case atStart => exact ⟨rfl, rfl⟩
      case round =>
        obtain ⟨rfl, B⟩ := hrel
        have eB := B.out
        subst eB
        clear B
        go_wp2_with fail
        refine bodyPost_ret (v := .tuple #[.pointer (some ⟨w.heap.size, 0, none⟩), .int .i64 0]) (by simp [results, Try.results10, go_sem]) rfl ?_
        exact ⟨⟨_, [], rfl, F.out, rfl⟩, B1.out⟩
end Go.Proofs.Ytnfkmpickmonoaa
