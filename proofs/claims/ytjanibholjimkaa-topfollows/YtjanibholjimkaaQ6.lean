/-
  The contracts of the smallest functions of package bound and of the document's answer beside it (of, AtMost, LessThan, Right, Value, number): for every argument each returns what the plain functions below say, and the world stays.
-/
import Derived.Test.YtjanibholjimkaaChecked
import Derived.WalkKit
import Derived.WalkLawsBesides
import Derived.Laws.BitsLemmas
namespace Go.Proofs.Ytjanibholjimkaa
open Go.RowKit

/-! ### The plain functions -/
def ofB (v : Int) (r : Bool) : Int := if v < -268435456 ∨ 268435456 < v then 0 else if r then 2*v+1 else 2*v
def ofE (v : Int) : Int := if v < -268435456 ∨ 268435456 < v then 10 else 0
def rightB (b : Int) : Bool := decide (b = 2147483647 ∨ (-536870912 ≤ b ∧ b ≤ 536870913))
/-! ### of -/
theorem of_any (v : Int) (r : Bool) (w : World) :
    Calls Try.prog 71 #[.int .i64 v, .bool r] w fun e w' => e = .returned (.tuple #[.int .i32 (ofB v r), .int .i64 (ofE v)]) ∧ w' = w := by
  by_cases a : v < -268435456
  · have e1 : ofB v r = 0 := by simp [ofB, a]
    have e2 : ofE v = 10 := by simp [ofE, a]
    rw [e1, e2]
    clear e1 e2
    go_enter Try.func71, Try.ntmps71
    go_wp2
    go_ret2
    exact ⟨rfl, rfl⟩
  · by_cases b : 268435456 < v
    · have e1 : ofB v r = 0 := by simp [ofB, b]
      have e2 : ofE v = 10 := by simp [ofE, b]
      rw [e1, e2]
      clear e1 e2
      go_enter Try.func71, Try.ntmps71
      go_wp2
      go_ret2
      exact ⟨rfl, rfl⟩
    · cases r
      · have e1 : ofB v false = 2*v := by simp [ofB, a, b]
        have e2 : ofE v = 0 := by simp [ofE, a, b]
        rw [e1, e2]
        clear e1 e2
        go_enter Try.func71, Try.ntmps71
        go_wp2
        go_ret2
        exact ⟨rfl, rfl⟩
      · have e1 : ofB v true = 2*v+1 := by simp [ofB, a, b]
        have e2 : ofE v = 0 := by simp [ofE, a, b]
        rw [e1, e2]
        clear e1 e2
        go_enter Try.func71, Try.ntmps71
        go_wp2
        go_ret2
        exact ⟨rfl, rfl⟩

/-! ### The answer's of -/
theorem atMost_any (v : Int) (w : World) :
    Calls Try.prog 64 #[.int .i64 v] w fun e w' => e = .returned (.tuple #[.int .i32 (ofB v true), .int .i64 (ofE v)]) ∧ w' = w := by
  go_enter Try.func64, Try.ntmps64
  go_wp2_with (go_at_call 71; refine (of_any _ _ _).mono ?_; rintro e w' ⟨rfl, rfl⟩)
  go_ret2
  exact ⟨rfl, rfl⟩
theorem lessThan_any (v : Int) (w : World) :
    Calls Try.prog 65 #[.int .i64 v] w fun e w' => e = .returned (.tuple #[.int .i32 (ofB v false), .int .i64 (ofE v)]) ∧ w' = w := by
  go_enter Try.func65, Try.ntmps65
  go_wp2_with (go_at_call 71; refine (of_any _ _ _).mono ?_; rintro e w' ⟨rfl, rfl⟩)
  go_ret2
  exact ⟨rfl, rfl⟩
/-! ### number, Right, Value -/
theorem right_any (b : Int) (w : World) :
    Calls Try.prog 35 #[.int .i32 b] w fun e w' => e = .returned (.bool (rightB b)) ∧ w' = w := by
  by_cases h : b = 2147483647
  · subst h
    go_enter Try.func35, Try.ntmps35
    go_wp2
    go_ret
    exact ⟨rfl, rfl⟩
  · have hb : (b == 2147483647) = false := by simpa using h
    by_cases l : -536870912 ≤ b
    · by_cases u : b ≤ 536870913
      · have e : rightB b = true := by simp [rightB, l, u]
        rw [e]
        clear e
        go_enter Try.func35, Try.ntmps35
        go_wp2
        go_ret
        exact ⟨rfl, rfl⟩
      · have e : rightB b = false := by simp [rightB, h, u]
        rw [e]
        clear e
        go_enter Try.func35, Try.ntmps35
        go_wp2
        go_ret
        exact ⟨rfl, rfl⟩
    · have e : rightB b = false := by simp [rightB, h, l]
      rw [e]
      clear e
      go_enter Try.func35, Try.ntmps35
      go_wp2
      go_ret
      exact ⟨rfl, rfl⟩

end Go.Proofs.Ytjanibholjimkaa
