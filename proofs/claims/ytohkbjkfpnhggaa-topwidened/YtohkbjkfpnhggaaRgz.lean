/-
  The contract of the division of a number of 128 bits by one of 64 (over), and of sign.
-/
import Derived.Test.YtohkbjkfpnhggaaRez
import Derived.Test.YtohkbjkfpnhggaaZs
namespace Go.Proofs.Ytohkbjkfpnhggaa
open Go.RowKit Go.Shelf
set_option linter.unusedVariables false

theorem digit2 (d r l : Int) (r0 : 0 ≤ r) (r1 : r < d) (l0 : 0 ≤ l) (l1 : l ≤ 18446744073709551615) : (r * 18446744073709551616 + l) / d < 18446744073709551616 := by
  rw [Int.ediv_lt_iff_lt_mul (by omega)]
  omega
/-! ### sign -/
theorem sign_zero (a b : Int) (g : Bool) (w : World) (HZ : Hid (∀ w, Calls Try.prog 91 #[.agg #[.int .u64 a, .int .u64 b]] w fun e w' => e = .returned (.bool true) ∧ Below w.heap.size w w')) :
    Calls Try.prog 84 #[.agg #[.int .u64 a, .int .u64 b, .bool g]] w fun e w' => e = .returned (.int .i64 0) ∧ Below w.heap.size w w' := by
  go_enter Try.func84, Try.ntmps84
  go_wp2_with fail
  refine (HZ.out _).mono ?_
  rintro e w1 ⟨rfl, hb⟩
  go_wp2
  go_ret
  exact ⟨rfl, beyond (single w _) hb⟩
theorem sign_some (a b : Int) (g : Bool) (w : World) (HZ : Hid (∀ w, Calls Try.prog 91 #[.agg #[.int .u64 a, .int .u64 b]] w fun e w' => e = .returned (.bool false) ∧ Below w.heap.size w w')) :
    Calls Try.prog 84 #[.agg #[.int .u64 a, .int .u64 b, .bool g]] w fun e w' => e = .returned (.int .i64 (if g then -1 else 1)) ∧ Below w.heap.size w w' := by
  cases g
  all_goals
    go_enter Try.func84, Try.ntmps84
    go_wp2_with fail
    refine (HZ.out _).mono ?_
    rintro e w1 ⟨rfl, hb⟩
    have s0 := kc ⟨w.heap.size, 2, none⟩ _ hb (by simp [go_sem]; rfl)
    have hB := beyond (single w _) hb
    clear hb
    go_wp2
    go_ret
    exact ⟨rfl, hB⟩
theorem sign_any (N : Int) (g : Bool) (w : World) (hN : U128 N) :
    Calls Try.prog 84 #[sv N g] w fun e w' => e = .returned (.int .i64 (if N = 0 then 0 else if g then -1 else 1)) ∧ Below w.heap.size w w' := by
  have Z := fun w => zero_any N w hN
  by_cases h : N = 0
  · rw [decide_eq_true h] at Z
    rw [if_pos h]
    exact sign_zero _ _ g w Z
  · rw [decide_eq_false h] at Z
    rw [if_neg h]
    exact sign_some _ _ g w Z
end Go.Proofs.Ytohkbjkfpnhggaa
