/-
  fed: the document's Not of a bound.
-/
import Derived.Test.YtnfkmpickmonoaaQ27
namespace Go.Proofs.Ytnfkmpickmonoaa
open Go.RowKit
set_option linter.unusedVariables false
theorem rnot_any (b : Int) (w : World) (h0 : -2147483648 ≤ b) (h1 : b ≤ 2147483647) :
    Calls Try.prog 84 #[.int .i32 b] w fun e w' => e = .returned (.tuple #[.int .i32 (notB b), .int .i64 (notE b)]) ∧ w' = w := by
  cases f : finB b
  · have e1 : notB b = 0 := by simp [notB, f]
    rw [e1]
    cases r : rightB b
    · have e2 : notE b = 7 := by simp [notE, r]
      rw [e2]
      clear e1 e2
      go_enter Try.func84, Try.ntmps84
      go_wp2_with (first | (go_at_call 35; refine (rright_any _ _ h0 h1).mono ?_; rintro e w' ⟨rfl, rfl⟩) | (go_at_call 99; refine (rvalue_any _ _ h0 h1).mono ?_; rintro e w' ⟨rfl, rfl⟩))
      go_ret2
      exact ⟨rfl, rfl⟩
    · have e2 : notE b = 4 := by simp [notE, r, f]
      rw [e2]
      clear e1 e2
      go_enter Try.func84, Try.ntmps84
      go_wp2_with (first | (go_at_call 35; refine (rright_any _ _ h0 h1).mono ?_; rintro e w' ⟨rfl, rfl⟩) | (go_at_call 99; refine (rvalue_any _ _ h0 h1).mono ?_; rintro e w' ⟨rfl, rfl⟩))
      go_ret2
      exact ⟨rfl, rfl⟩
  · have r := right_of_fin f
    have l := (fin_iff b).1 f
    have l0 : -268435456 ≤ valV b := by simp [valV, f]; omega
    have l1 : valV b ≤ 268435456 := by simp [valV, f]; omega
    have e1 : notB b = ofB (-(valV b)) (!valR b) := by simp [notB, f]
    have e2 : notE b = ofE (-(valV b)) := by simp [notE, r, f]
    rw [e1, e2]
    clear e1 e2 l
    go_enter Try.func84, Try.ntmps84
    go_wp2_with (first | (go_at_call 35; refine (rright_any _ _ h0 h1).mono ?_; rintro e w' ⟨rfl, rfl⟩) | (go_at_call 99; refine (rvalue_any _ _ h0 h1).mono ?_; rintro e w' ⟨rfl, rfl⟩) | (go_at_call 100; refine (rof_any _ _ _).mono ?_; rintro e w' ⟨rfl, rfl⟩))
    go_ret2
    exact ⟨rfl, rfl⟩

theorem rnot_fin (v : Int) (w : World) (h0 : -536870912 ≤ v) (h1 : v ≤ 536870913) :
    Calls Try.prog 84 #[.int .i32 v] w fun e w' => e = .returned (.tuple #[.int .i32 (1 - v), .int .i64 (notE v)]) ∧ w' = w := by
  have h := rnot_any v w (by omega) (by omega)
  rw [notB_eq h0 h1] at h
  exact h
end Go.Proofs.Ytnfkmpickmonoaa
