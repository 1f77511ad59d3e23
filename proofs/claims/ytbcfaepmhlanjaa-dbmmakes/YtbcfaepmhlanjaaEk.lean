/-
  The contracts of Cell, by the program and by the document.
-/
import Derived.Test.YtbcfaepmhlanjaaEj
namespace Go.Proofs.Ytbcfaepmhlanjaa
open Go.RowKit
set_option linter.unusedVariables false
set_option maxRecDepth 100000
theorem has_any (n : Nat) (i j : Int) (w : World) :
    Calls Try.prog 30 #[.agg #[.int .i64 n], .int .i64 i, .int .i64 j] w fun e w' => e = .returned (.bool (decide (0 ≤ i ∧ i ≤ n ∧ 0 ≤ j ∧ j ≤ n))) ∧ Below w.heap.size w w' := by
  by_cases c1 : 0 ≤ i
  · by_cases c2 : i ≤ n
    · by_cases c3 : 0 ≤ j
      · by_cases c4 : j ≤ n
        · rw [decide_eq_true ⟨c1, c2, c3, c4⟩]
          go_enter Try.func30, Try.ntmps30
          go_wp2_with fail
          first | (go_ret; exact ⟨by first | rfl | simp [*], below_one _ _⟩) | (go_quiet (fail); go_wp2_with fail; go_ret; exact ⟨by first | rfl | simp [*], below_drewN (below_one _ _) _⟩)
        · rw [decide_eq_false (by omega)]
          go_enter Try.func30, Try.ntmps30
          go_wp2_with fail
          first | (go_ret; exact ⟨by first | rfl | simp [*], below_one _ _⟩) | (go_quiet (fail); go_wp2_with fail; go_ret; exact ⟨by first | rfl | simp [*], below_drewN (below_one _ _) _⟩)
      · rw [decide_eq_false (by omega)]
        go_enter Try.func30, Try.ntmps30
        go_wp2_with fail
        first | (go_ret; exact ⟨by first | rfl | simp [*], below_one _ _⟩) | (go_quiet (fail); go_wp2_with fail; go_ret; exact ⟨by first | rfl | simp [*], below_drewN (below_one _ _) _⟩)
    · rw [decide_eq_false (by omega)]
      go_enter Try.func30, Try.ntmps30
      go_wp2_with fail
      first | (go_ret; exact ⟨by first | rfl | simp [*], below_one _ _⟩) | (go_quiet (fail); go_wp2_with fail; go_ret; exact ⟨by first | rfl | simp [*], below_drewN (below_one _ _) _⟩)
  · rw [decide_eq_false (by omega)]
    go_enter Try.func30, Try.ntmps30
    go_wp2_with fail
    first | (go_ret; exact ⟨by first | rfl | simp [*], below_one _ _⟩) | (go_quiet (fail); go_wp2_with fail; go_ret; exact ⟨by first | rfl | simp [*], below_drewN (below_one _ _) _⟩)
end Go.Proofs.Ytbcfaepmhlanjaa
