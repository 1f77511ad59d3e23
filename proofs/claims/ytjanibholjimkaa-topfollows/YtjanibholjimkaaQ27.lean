/-
  dbm.Limits, of rows of limits.
-/
import Derived.Test.YtjanibholjimkaaQ9
import Derived.Test.YtjanibholjimkaaQ8
import Derived.Deep.MidRow
import Derived.Laws.StructEq
namespace Go.Proofs.Ytjanibholjimkaa
open Go.RowKit
set_option linter.unusedVariables false
set_option maxRecDepth 100000
theorem has_any (n : Nat) (i j : Int) (w : World) :
    Calls Try.prog 55 #[.agg #[.int .i64 n], .int .i64 i, .int .i64 j] w fun e w' => e = .returned (.bool (decide (0 ≤ i ∧ i ≤ n ∧ 0 ≤ j ∧ j ≤ n))) ∧ Below w.heap.size w w' := by
  by_cases c1 : 0 ≤ i
  · by_cases c2 : i ≤ n
    · by_cases c3 : 0 ≤ j
      · by_cases c4 : j ≤ n
        · rw [decide_eq_true ⟨c1, c2, c3, c4⟩]
          go_enter Try.func55, Try.ntmps55
          go_wp2_with fail
          first | (go_ret; exact ⟨by first | rfl | simp [*], below_one _ _⟩) | (go_quiet (fail); go_wp2_with fail; go_ret; exact ⟨by first | rfl | simp [*], below_drewN (below_one _ _) _⟩)
        · rw [decide_eq_false (by omega)]
          go_enter Try.func55, Try.ntmps55
          go_wp2_with fail
          first | (go_ret; exact ⟨by first | rfl | simp [*], below_one _ _⟩) | (go_quiet (fail); go_wp2_with fail; go_ret; exact ⟨by first | rfl | simp [*], below_drewN (below_one _ _) _⟩)
      · rw [decide_eq_false (by omega)]
        go_enter Try.func55, Try.ntmps55
        go_wp2_with fail
        first | (go_ret; exact ⟨by first | rfl | simp [*], below_one _ _⟩) | (go_quiet (fail); go_wp2_with fail; go_ret; exact ⟨by first | rfl | simp [*], below_drewN (below_one _ _) _⟩)
    · rw [decide_eq_false (by omega)]
      go_enter Try.func55, Try.ntmps55
      go_wp2_with fail
      first | (go_ret; exact ⟨by first | rfl | simp [*], below_one _ _⟩) | (go_quiet (fail); go_wp2_with fail; go_ret; exact ⟨by first | rfl | simp [*], below_drewN (below_one _ _) _⟩)
  · rw [decide_eq_false (by omega)]
    go_enter Try.func55, Try.ntmps55
    go_wp2_with fail
    first | (go_ret; exact ⟨by first | rfl | simp [*], below_one _ _⟩) | (go_quiet (fail); go_wp2_with fail; go_ret; exact ⟨by first | rfl | simp [*], below_drewN (below_one _ _) _⟩)
/-- A row of limits: of each its two numbers and its bound. -/
structure Lims where
  q : Nat
  i : Nat → Int
  j : Nat → Int
  b : Nat → Int
/-- They lie in memory, three cells each. -/
def LimRow (w : World) (b off : Nat) (L : Lims) : Prop := ∀ k, k < L.q → w.cell? ⟨b, off + k * 3, none⟩ = some (.int .i64 (L.i k)) ∧ w.cell? ⟨b, off + k * 3 + 1, none⟩ = some (.int .i64 (L.j k)) ∧ w.cell? ⟨b, off + k * 3 + 2, none⟩ = some (.int .i32 (L.b k))
theorem LimRow.later {w w' : World} {b off B : Nat} {L : Lims} (h : LimRow w b off L) (hb : Below B w w') (hB : b < B) : LimRow w' b off L := fun k hk =>
  ⟨(hb.cell (p := ⟨b, off + k * 3, none⟩) hB).trans (h k hk).1, (hb.cell (p := ⟨b, off + k * 3 + 1, none⟩) hB).trans (h k hk).2.1, (hb.cell (p := ⟨b, off + k * 3 + 2, none⟩) hB).trans (h k hk).2.2⟩
end Go.Proofs.Ytjanibholjimkaa
