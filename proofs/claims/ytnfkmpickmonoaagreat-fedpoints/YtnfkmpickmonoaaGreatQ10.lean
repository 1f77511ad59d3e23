/-
  The contracts of Cell, by the program and by the document.
-/
import Derived.Test.YtnfkmpickmonoaaGreatQ8
namespace Go.Proofs.YtnfkmpickmonoaaGreat
open Go.RowKit
set_option linter.unusedVariables false
set_option maxRecDepth 100000
theorem has_any (n : Nat) (i j : Int) (w : World) :
    Calls Tryz.prog 68 #[.agg #[.int .i64 n], .int .i64 i, .int .i64 j] w fun e w' => e = .returned (.bool (decide (0 ≤ i ∧ i ≤ n ∧ 0 ≤ j ∧ j ≤ n))) ∧ Below w.heap.size w w' := by
  by_cases c1 : 0 ≤ i
  · by_cases c2 : i ≤ n
    · by_cases c3 : 0 ≤ j
      · by_cases c4 : j ≤ n
        · rw [decide_eq_true ⟨c1, c2, c3, c4⟩]
          go_enter Tryz.func68, Tryz.ntmps68
          go_wp2_with fail
          first | (go_ret; exact ⟨by first | rfl | simp [*], below_one _ _⟩) | (go_quiet (fail); go_wp2_with fail; go_ret; exact ⟨by first | rfl | simp [*], below_drewN (below_one _ _) _⟩)
        · rw [decide_eq_false (by omega)]
          go_enter Tryz.func68, Tryz.ntmps68
          go_wp2_with fail
          first | (go_ret; exact ⟨by first | rfl | simp [*], below_one _ _⟩) | (go_quiet (fail); go_wp2_with fail; go_ret; exact ⟨by first | rfl | simp [*], below_drewN (below_one _ _) _⟩)
      · rw [decide_eq_false (by omega)]
        go_enter Tryz.func68, Tryz.ntmps68
        go_wp2_with fail
        first | (go_ret; exact ⟨by first | rfl | simp [*], below_one _ _⟩) | (go_quiet (fail); go_wp2_with fail; go_ret; exact ⟨by first | rfl | simp [*], below_drewN (below_one _ _) _⟩)
    · rw [decide_eq_false (by omega)]
      go_enter Tryz.func68, Tryz.ntmps68
      go_wp2_with fail
      first | (go_ret; exact ⟨by first | rfl | simp [*], below_one _ _⟩) | (go_quiet (fail); go_wp2_with fail; go_ret; exact ⟨by first | rfl | simp [*], below_drewN (below_one _ _) _⟩)
  · rw [decide_eq_false (by omega)]
    go_enter Tryz.func68, Tryz.ntmps68
    go_wp2_with fail
    first | (go_ret; exact ⟨by first | rfl | simp [*], below_one _ _⟩) | (go_quiet (fail); go_wp2_with fail; go_ret; exact ⟨by first | rfl | simp [*], below_drewN (below_one _ _) _⟩)
theorem cell_in (b n i j : Nat) (c : Row) (w : World) (hn : n ≤ 8) (hz : ZoneAt w b n c) (hi : i ≤ n) (hj : j ≤ n) :
    Calls Tryz.prog 110 #[.pointer (some ⟨b, 0, none⟩), .int .i64 i, .int .i64 j] w fun e w' => e = .returned (.tuple #[.int .i32 (c (i * (n + 1) + j)), .int .i64 0]) ∧ Below w.heap.size w w' := by
  have HH : Hid (∀ w, Calls Tryz.prog 68 #[.agg #[.int .i64 n], .int .i64 i, .int .i64 j] w fun e w' => e = .returned (.bool true) ∧ Below w.heap.size w w') := fun w => by
    have := has_any n i j w
    rw [decide_eq_true ⟨by omega, by omega, by omega, by omega⟩] at this
    exact this
  have HA : Hid (∀ w', Below w.heap.size w w' → Calls Tryz.prog 115 #[.pointer (some ⟨b, 0, none⟩), .int .i64 i, .int .i64 j] w' fun e w'' => e = .returned (.int .i32 (c (i * (n + 1) + j))) ∧ Below w'.heap.size w' w'') := fun w' hb => at_any b n i j c w' hn hi hj (hz.past hb)
  have h0 := hz.clocks
  clear hz
  generalize c (i * (n + 1) + j) = x at *
  go_enter Tryz.func110, Tryz.ntmps110
  go_wp2_with fail
  refine (HH.out _).mono ?_
  rintro e w' ⟨rfl, hb⟩
  have HA' := hideD (HA.out _ hb)
  have B1 := hideD hb
  clear hb HA
  go_wp2_with fail
  refine HA'.out.mono ?_
  rintro e w2 ⟨rfl, hb⟩
  go_wp2_with fail
  exact bodyPost_ret (v := .tuple #[.int .i32 x, .int .i64 0]) (by simp [results, Tryz.results110, go_sem]) rfl ⟨rfl, beyondD B1.out hb⟩
end Go.Proofs.YtnfkmpickmonoaaGreat
