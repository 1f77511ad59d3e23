/-
  bound.Not.
-/
import Derived.Test.YtnfkmpickmonoaaGreatQ7
namespace Go.Proofs.YtnfkmpickmonoaaGreat
open Go.RowKit
set_option linter.unusedVariables false
def notB (b : Int) : Int := if finB b then ofB (-(valV b)) (!valR b) else 0
def notE (b : Int) : Int := if rightB b then (if finB b then ofE (-(valV b)) else 4) else 7
theorem not_any (b : Int) (w : World) :
    Calls Tryz.prog 113 #[.int .i32 b] w fun e w' => e = .returned (.tuple #[.int .i32 (notB b), .int .i64 (notE b)]) ∧ w' = w := by
  cases f : finB b
  · have e1 : notB b = 0 := by simp [notB, f]
    rw [e1]
    cases r : rightB b
    · have e2 : notE b = 7 := by simp [notE, r]
      rw [e2]
      clear e1 e2
      go_enter Tryz.func113, Tryz.ntmps113
      go_wp2_with (go_at_call 37; refine (right_any _ _).mono ?_; rintro e w' ⟨rfl, rfl⟩)
      go_ret2
      exact ⟨rfl, rfl⟩
    · have e2 : notE b = 4 := by simp [notE, r, f]
      rw [e2]
      clear e1 e2
      go_enter Tryz.func113, Tryz.ntmps113
      go_wp2_with (first | (go_at_call 37; refine (right_any _ _).mono ?_; rintro e w' ⟨rfl, rfl⟩) | (go_at_call 104; refine (value_any _ _).mono ?_; rintro e w' ⟨rfl, rfl⟩))
      go_ret2
      exact ⟨rfl, rfl⟩
  · have r := right_of_fin f
    have l := (fin_iff b).1 f
    have l0 : -268435456 ≤ valV b := by simp [valV, f]; omega
    have l1 : valV b ≤ 268435456 := by simp [valV, f]; omega
    have e1 : notB b = ofB (-(valV b)) (!valR b) := by simp [notB, f]
    have e2 : notE b = ofE (-(valV b)) := by simp [notE, r, f]
    rw [e1, e2]
    clear e1 e2 l
    go_enter Tryz.func113, Tryz.ntmps113
    go_wp2_with (first | (go_at_call 37; refine (right_any _ _).mono ?_; rintro e w' ⟨rfl, rfl⟩) | (go_at_call 104; refine (value_any _ _).mono ?_; rintro e w' ⟨rfl, rfl⟩) | (go_at_call 135; refine (of_any _ _ _).mono ?_; rintro e w' ⟨rfl, rfl⟩))
    go_ret2
    exact ⟨rfl, rfl⟩
end Go.Proofs.YtnfkmpickmonoaaGreat
