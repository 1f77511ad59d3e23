/-
  The contracts of bound.Holds and bound.Not: for every bound and fraction they return what the plain functions below say; nothing that was there turns.
-/
import Derived.Test.YtacgkbmhklfcaabBb
import Derived.Deep.QuietTactic
import Derived.BigQuiet
namespace Go.Proofs.Ytacgkbmhklfcaab
open Go.RowKit
set_option linter.unusedVariables false

/-- Does num / den keep the bound? (Inf: always; else not, if the bound is not right or den is below 1.) -/
def holdsB (b n d : Int) : Bool := decide (b = 2147483647) || (finB b && decide (1 ≤ d) && (if valR b then decide (n ≤ valV b * d) else decide (n < valV b * d)))

theorem floor_neg (n d : Int) (hd : 1 ≤ d) (h : n.tmod d < 0) : n / d = n.tdiv d - 1 ∧ n % d ≠ 0 := by
  have h1 := Int.mul_tdiv_add_tmod n d
  have h2 : -d < n.tmod d := Int.lt_tmod_of_pos n (by omega)
  have h3 := (Int.ediv_emod_unique (a := n) (b := d) (r := n.tmod d + d) (q := n.tdiv d - 1) (by omega)).2 ⟨by rw [Int.mul_sub]; omega, by omega, by omega⟩
  exact ⟨h3.1, by rw [h3.2]; omega⟩
theorem floor_pos (n d : Int) (hd : 1 ≤ d) (h : 0 ≤ n.tmod d) : n / d = n.tdiv d ∧ n % d = n.tmod d := by
  have h1 := Int.mul_tdiv_add_tmod n d
  have h2 : n.tmod d < d := Int.tmod_lt_of_pos n (by omega)
  exact (Int.ediv_emod_unique (a := n) (b := d) (r := n.tmod d) (q := n.tdiv d) (by omega)).2 ⟨by omega, h, h2⟩
theorem lt_floor (v n d : Int) (hd : 1 ≤ d) : n < v * d ↔ n / d < v := (Int.ediv_lt_iff_lt_mul (by omega)).symm
theorem le_floor (v n d : Int) (hd : 1 ≤ d) : n ≤ v * d ↔ (n / d < v ∨ (n / d = v ∧ n % d = 0)) := by
  have h1 := Int.mul_ediv_add_emod n d
  have h2 := Int.emod_nonneg n (show d ≠ 0 by omega)
  constructor
  · intro h
    by_cases e : n = v * d
    · right
      subst e
      exact ⟨Int.mul_ediv_cancel v (by omega), Int.mul_emod_left v d⟩
    · exact .inl ((lt_floor v n d hd).1 (by omega))
  · rintro (h | ⟨h, g⟩)
    · have := (lt_floor v n d hd).2 h
      omega
    · rw [h, g, Int.mul_comm] at h1
      omega

theorem holds_inf (n d : Int) (w : World) :
    Calls Try.prog 10 #[.int .i32 2147483647, .int .i64 n, .int .i64 d] w fun e w' => e = .returned (.bool true) ∧ Below w.heap.size w w' := by
  go_enter Try.func10, Try.ntmps10
  go_wp2_with fail
  go_ret
  exact ⟨rfl, Below.refl _ _⟩
theorem holds_not (b n d : Int) (w : World) (h : b ≠ 2147483647) (f : finB b = false ∨ d < 1) :
    Calls Try.prog 10 #[.int .i32 b, .int .i64 n, .int .i64 d] w fun e w' => e = .returned (.bool false) ∧ Below w.heap.size w w' := by
  have hb : (b == 2147483647) = false := by simpa using h
  cases g : finB b
  · go_enter Try.func10, Try.ntmps10
    go_wp2_with (go_at_call 22; refine (value_any _ _).mono ?_; rintro e w' ⟨rfl, rfl⟩)
    go_ret
    exact ⟨rfl, Below.refl _ _⟩
  · have hd : d < 1 := by
      rcases f with f | f
      · rw [g] at f; cases f
      · exact f
    clear f
    go_enter Try.func10, Try.ntmps10
    go_wp2_with (go_at_call 22; refine (value_any _ _).mono ?_; rintro e w' ⟨rfl, rfl⟩)
    go_ret
    exact ⟨rfl, Below.refl _ _⟩

theorem below_drawn (w : World) (n : Nat) : Below w.heap.size w (w.drewN n) := below_drewN (Below.refl _ _) n

set_option maxHeartbeats 1000000 in
theorem holds_neg (b n d : Int) (w : World) (hb : (b == 2147483647) = false) (f : finB b = true) (hd : 1 ≤ d) (hd1 : d ≤ 9223372036854775807) (hn0 : -9223372036854775808 ≤ n) (hn1 : n ≤ 9223372036854775807)
    (hr : n.tmod d < 0) (hq : -9223372036854775807 ≤ n.tdiv d) (hq1 : n.tdiv d ≤ 9223372036854775807) :
    Calls Try.prog 10 #[.int .i32 b, .int .i64 n, .int .i64 d] w fun e w' => e = .returned (.bool (decide (n.tdiv d - 1 < valV b))) ∧ Below w.heap.size w w' := by
  have hz : (n.tmod d == 0) = false := by simp; omega
  by_cases c : n.tdiv d - 1 < valV b
  · have e : decide (n.tdiv d - 1 < valV b) = true := by simpa using c
    rw [e]
    clear e
    go_enter Try.func10, Try.ntmps10
    go_wp2_with (go_at_call 22; refine (value_any _ _).mono ?_; rintro e w' ⟨rfl, rfl⟩)
    go_quiet (fail)
    go_wp2
    go_ret
    exact ⟨rfl, below_drawn _ _⟩
  · have e : decide (n.tdiv d - 1 < valV b) = false := by simpa using c
    rw [e]
    clear e
    have c1 : decide (n.tdiv d - 1 < valV b) = false := by simpa using c
    cases r : valR b
    · go_enter Try.func10, Try.ntmps10
      go_wp2_with (go_at_call 22; refine (value_any _ _).mono ?_; rintro e w' ⟨rfl, rfl⟩)
      go_quiet (fail)
      go_wp2
      go_ret
      exact ⟨rfl, below_drawn _ _⟩
    · cases g : (n.tdiv d - 1 == valV b)
      · go_enter Try.func10, Try.ntmps10
        go_wp2_with (go_at_call 22; refine (value_any _ _).mono ?_; rintro e w' ⟨rfl, rfl⟩)
        go_quiet (fail)
        go_wp2
        go_ret
        exact ⟨rfl, below_drawn _ _⟩
      · go_enter Try.func10, Try.ntmps10
        go_wp2_with (go_at_call 22; refine (value_any _ _).mono ?_; rintro e w' ⟨rfl, rfl⟩)
        go_quiet (fail)
        go_wp2
        go_ret
        exact ⟨rfl, below_drawn _ _⟩

set_option maxHeartbeats 1000000 in
theorem holds_pos (b n d : Int) (w : World) (hb : (b == 2147483647) = false) (f : finB b = true) (hd : 1 ≤ d) (hd1 : d ≤ 9223372036854775807) (hn0 : -9223372036854775808 ≤ n) (hn1 : n ≤ 9223372036854775807)
    (hr : 0 ≤ n.tmod d) :
    Calls Try.prog 10 #[.int .i32 b, .int .i64 n, .int .i64 d] w fun e w' => e = .returned (.bool (decide (n.tdiv d < valV b) || (valR b && (n.tdiv d == valV b) && (n.tmod d == 0)))) ∧ Below w.heap.size w w' := by
  by_cases c : n.tdiv d < valV b
  · have e : (decide (n.tdiv d < valV b) || (valR b && (n.tdiv d == valV b) && (n.tmod d == 0))) = true := by simp [c]
    rw [e]
    clear e
    go_enter Try.func10, Try.ntmps10
    go_wp2_with (go_at_call 22; refine (value_any _ _).mono ?_; rintro e w' ⟨rfl, rfl⟩)
    go_quiet (fail)
    go_wp2
    go_ret
    exact ⟨rfl, below_drawn _ _⟩
  · have c1 : decide (n.tdiv d < valV b) = false := by simpa using c
    cases r : valR b
    · have e : (decide (n.tdiv d < valV b) || (false && (n.tdiv d == valV b) && (n.tmod d == 0))) = false := by simp [c]
      rw [e]
      clear e
      go_enter Try.func10, Try.ntmps10
      go_wp2_with (go_at_call 22; refine (value_any _ _).mono ?_; rintro e w' ⟨rfl, rfl⟩)
      go_quiet (fail)
      go_wp2
      go_ret
      exact ⟨rfl, below_drawn _ _⟩
    · cases g : (n.tdiv d == valV b)
      · have e : (decide (n.tdiv d < valV b) || (true && false && (n.tmod d == 0))) = false := by simp [c]
        rw [e]
        clear e
        go_enter Try.func10, Try.ntmps10
        go_wp2_with (go_at_call 22; refine (value_any _ _).mono ?_; rintro e w' ⟨rfl, rfl⟩)
        go_quiet (fail)
        go_wp2
        go_ret
        exact ⟨rfl, below_drawn _ _⟩
      · cases z : (n.tmod d == 0)
        · have e : (decide (n.tdiv d < valV b) || (true && true && false)) = false := by simp [c]
          rw [e]
          clear e
          go_enter Try.func10, Try.ntmps10
          go_wp2_with (go_at_call 22; refine (value_any _ _).mono ?_; rintro e w' ⟨rfl, rfl⟩)
          go_quiet (fail)
          go_wp2
          go_ret
          exact ⟨rfl, below_drawn _ _⟩
        · have e : (decide (n.tdiv d < valV b) || (true && true && true)) = true := by simp
          rw [e]
          clear e
          go_enter Try.func10, Try.ntmps10
          go_wp2_with (go_at_call 22; refine (value_any _ _).mono ?_; rintro e w' ⟨rfl, rfl⟩)
          go_quiet (fail)
          go_wp2
          go_ret
          exact ⟨rfl, below_drawn _ _⟩

theorem holds_any (b n d : Int) (w : World) (hd1 : d ≤ 9223372036854775807) (hn0 : -9223372036854775808 ≤ n) (hn1 : n ≤ 9223372036854775807) :
    Calls Try.prog 10 #[.int .i32 b, .int .i64 n, .int .i64 d] w fun e w' => e = .returned (.bool (holdsB b n d)) ∧ Below w.heap.size w w' := by
  by_cases h : b = 2147483647
  · subst h
    have e : holdsB 2147483647 n d = true := by simp [holdsB]
    rw [e]
    exact holds_inf n d w
  · have hb : (b == 2147483647) = false := by simpa using h
    by_cases g : finB b = false ∨ d < 1
    · have e : holdsB b n d = false := by
        rcases g with g | g
        · simp [holdsB, h, g]
        · simp [holdsB, h]; omega
      rw [e]
      exact holds_not b n d w h g
    · have f : finB b = true := by
        cases q : finB b
        · exact absurd (.inl q) g
        · rfl
      have hd : 1 ≤ d := by omega
      by_cases hr : n.tmod d < 0
      · obtain ⟨e1, e2⟩ := floor_neg n d hd hr
        have e : holdsB b n d = decide (n.tdiv d - 1 < valV b) := by
          simp only [holdsB, h, f, hd, decide_true, decide_false, Bool.true_and, Bool.false_or, Bool.and_true]
          cases r : valR b
          · simp only [Bool.false_eq_true, if_false]
            exact decide_eq_decide.2 (by rw [lt_floor _ _ _ hd, e1])
          · simp only [if_true]
            exact decide_eq_decide.2 (by rw [le_floor _ _ _ hd, e1]; simp [e2])
        rw [e]
        have l1 := Int.mul_tdiv_add_tmod n d
        have hn : n < 0 := by
          rcases Int.lt_or_le n 0 with q | q
          · exact q
          · have := Int.tmod_nonneg d q
            omega
        have hq : -9223372036854775807 ≤ n.tdiv d := by
          have a1 : -9223372036854775808 ≤ n / d := by
            rw [Int.le_ediv_iff_mul_le (by omega)]
            have : (-9223372036854775808 : Int) * d ≤ -9223372036854775808 * 1 := by omega
            omega
          omega
        have hq1 : n.tdiv d ≤ 9223372036854775807 := by
          have a1 : n / d < 1 := by
            rw [Int.ediv_lt_iff_lt_mul (by omega)]
            omega
          omega
        exact holds_neg b n d w hb f hd hd1 hn0 hn1 hr hq hq1
      · have hr : 0 ≤ n.tmod d := by omega
        obtain ⟨e1, e2⟩ := floor_pos n d hd hr
        have e : holdsB b n d = (decide (n.tdiv d < valV b) || (valR b && (n.tdiv d == valV b) && (n.tmod d == 0))) := by
          simp only [holdsB, h, f, hd, decide_true, decide_false, Bool.true_and, Bool.false_or, Bool.and_true]
          cases r : valR b
          · simp only [Bool.false_eq_true, if_false, Bool.false_and, Bool.or_false]
            exact decide_eq_decide.2 (by rw [lt_floor _ _ _ hd, e1])
          · simp only [if_true, Bool.true_and]
            rw [Bool.eq_iff_iff]
            simp only [decide_eq_true_eq, Bool.or_eq_true, Bool.and_eq_true, beq_iff_eq]
            rw [le_floor _ _ _ hd, e1, e2]
        rw [e]
        exact holds_pos b n d w hb f hd hd1 hn0 hn1 hr

def notB (b : Int) : Int := if finB b then ofB (-(valV b)) (!valR b) else 0
def notE (b : Int) : Int := if rightB b then (if finB b then ofE (-(valV b)) else 4) else 7
end Go.Proofs.Ytacgkbmhklfcaab
