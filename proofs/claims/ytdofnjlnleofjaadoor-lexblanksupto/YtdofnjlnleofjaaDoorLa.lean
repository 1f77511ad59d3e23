/-
  The smallest functions of package lex and of the document's.
-/
import Derived.Test.YtdofnjlnleofjaaDoorChecked
import Derived.WalkKit
import Derived.WalkLawsBesides
import Derived.Deep.QuietTactic
import Derived.Deep.RegionHeld3
import Derived.Deep.DeepCutAuto
import Derived.BigQuiet
import Derived.Below
import Derived.WalkSmall
import Derived.WalkSpells
namespace Go.Proofs.YtdofnjlnleofjaaDoor
open Go.RowKit
set_option linter.unusedVariables false
theorem hideR {p : Prop} (h : p) : Hid p := h
theorem beyond {w w1 w2 : World} (h1 : Below w.heap.size w w1) (h2 : Below w1.heap.size w1 w2) : Below w.heap.size w w2 := h1.trans (h2.mono h1.size)
def lttI (x : Int) : Bool := (decide (97 ≤ x) && decide (x ≤ 122)) || (decide (65 ≤ x) && decide (x ≤ 90))
def digI (x : Int) : Bool := decide (48 ≤ x) && decide (x ≤ 57)
def wrdI (x : Int) : Bool := lttI x || digI x || (x == 95)
theorem retB {a b : Bool} (h : a = b) : Ending.returned (.bool a) = .returned (.bool b) := by rw [h]
theorem isLetter_any (x : Int) (w : World) : Calls Tryd.prog 10 #[.int .u8 x] w fun e w' => e = .returned (.bool (lttI x)) ∧ w' = w := by
  go_enter Tryd.func10, Tryd.ntmps10
  go_wp2
  all_goals go_ret
  all_goals refine ⟨retB ?_, rfl⟩
  all_goals (unfold lttI; first | rfl | (simp; done) | (simp; omega) | (rw [Bool.eq_iff_iff]; simp only [Bool.or_eq_true, Bool.and_eq_true, decide_eq_true_eq]; omega) | (by_cases q1 : 97 ≤ x <;> by_cases q2 : x ≤ 122 <;> by_cases q3 : 65 ≤ x <;> by_cases q4 : x ≤ 90 <;> simp [q1, q2, q3, q4] <;> omega))
theorem isDigit_any (x : Int) (w : World) : Calls Tryd.prog 16 #[.int .u8 x] w fun e w' => e = .returned (.bool (digI x)) ∧ w' = w := by
  go_enter Tryd.func16, Tryd.ntmps16
  go_wp2
  all_goals go_ret
  all_goals refine ⟨retB ?_, rfl⟩
  all_goals (unfold digI; first | rfl | (simp; done) | (simp; omega) | (rw [Bool.eq_iff_iff]; simp only [Bool.or_eq_true, Bool.and_eq_true, decide_eq_true_eq]; omega) | (by_cases q1 : 97 ≤ x <;> by_cases q2 : x ≤ 122 <;> by_cases q3 : 65 ≤ x <;> by_cases q4 : x ≤ 90 <;> simp [q1, q2, q3, q4] <;> omega))
theorem inWord_any (x : Int) (w : World) : Calls Tryd.prog 12 #[.int .u8 x] w fun e w' => e = .returned (.bool (wrdI x)) ∧ w' = w := by
  have H1 : Hid (∀ w, Calls Tryd.prog 10 #[.int .u8 x] w fun e w' => e = .returned (.bool (lttI x)) ∧ w' = w) := hideR fun w => isLetter_any x w
  have H2 : Hid (∀ w, Calls Tryd.prog 16 #[.int .u8 x] w fun e w' => e = .returned (.bool (digI x)) ∧ w' = w) := hideR fun w => isDigit_any x w
  unfold wrdI
  cases a : lttI x
  · rw [a] at H1
    cases b : digI x
    · rw [b] at H2
      clear a b
      go_enter Tryd.func12, Tryd.ntmps12
      go_wp2_with fail
      refine (H1.out _).mono ?_
      rintro e w1 ⟨rfl, rfl⟩
      go_wp2_with fail
      refine (H2.out _).mono ?_
      rintro e w2 ⟨rfl, rfl⟩
      go_wp2_with fail
      go_ret
      exact ⟨rfl, rfl⟩
    · rw [b] at H2
      clear a b
      go_enter Tryd.func12, Tryd.ntmps12
      go_wp2_with fail
      refine (H1.out _).mono ?_
      rintro e w1 ⟨rfl, rfl⟩
      go_wp2_with fail
      refine (H2.out _).mono ?_
      rintro e w2 ⟨rfl, rfl⟩
      go_wp2_with fail
      go_ret
      exact ⟨rfl, rfl⟩
  · rw [a] at H1
    clear a
    go_enter Tryd.func12, Tryd.ntmps12
    go_wp2_with fail
    refine (H1.out _).mono ?_
    rintro e w1 ⟨rfl, rfl⟩
    go_wp2_with fail
    go_ret
    exact ⟨rfl, rfl⟩
theorem noFeed_any (x : Int) (w : World) : Calls Tryd.prog 17 #[.int .u8 x] w fun e w' => e = .returned (.bool (!(x == 10))) ∧ w' = w := by
  go_enter Tryd.func17, Tryd.ntmps17
  go_wp2
  go_ret
  exact ⟨rfl, rfl⟩
end Go.Proofs.YtdofnjlnleofjaaDoor
