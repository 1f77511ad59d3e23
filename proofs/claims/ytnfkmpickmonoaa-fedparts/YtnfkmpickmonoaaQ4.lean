/-
  The contracts of the smallest functions of package bound and of the document's answer beside it (of, AtMost, LessThan, Right, Value, number): for every argument each returns what the plain functions below say, and the world stays.
-/
import Derived.Test.YtnfkmpickmonoaaChecked
import Derived.WalkKit
import Derived.WalkLawsBesides
import Derived.Laws.BitsLemmas
namespace Go.Proofs.Ytnfkmpickmonoaa
open Go.RowKit

/-! ### The plain functions -/
def ofB (v : Int) (r : Bool) : Int := if v < -268435456 ∨ 268435456 < v then 0 else if r then 2*v+1 else 2*v
def ofE (v : Int) : Int := if v < -268435456 ∨ 268435456 < v then 10 else 0
def rightB (b : Int) : Bool := decide (b = 2147483647 ∨ (-536870912 ≤ b ∧ b ≤ 536870913))
def finB (b : Int) : Bool := decide (-536870912 ≤ b ∧ b ≤ 536870913)
def valV (b : Int) : Int := if finB b then b / 2 else 0
def valR (b : Int) : Bool := finB b && decide (b % 2 = 1)

theorem right_of_fin {b : Int} (h : finB b = true) : rightB b = true := by
  simp only [finB, rightB, decide_eq_true_eq] at *; exact .inr h
theorem fin_iff (b : Int) : finB b = true ↔ (-536870912 ≤ b ∧ b ≤ 536870913) := by simp [finB]

theorem i32_and1 (n : Int) : bits .and .i32 n 1 = n % 2 := by
  have h1 : (BitVec.ofInt 32 1).toNat = 2 ^ 1 - 1 := by decide
  have key : (BitVec.ofInt 32 n &&& BitVec.ofInt 32 1).toNat = (n % ((2 ^ 32 : Nat) : Int)).toNat % 2 ^ 1 := by
    rw [BitVec.toNat_and, BitVec.toNat_ofInt, h1, Nat.and_two_pow_sub_one_eq_mod]
  show IntKind.i32.wrap ((BitVec.ofInt 32 n &&& BitVec.ofInt 32 1).toNat : Nat) = n % 2
  rw [key, IntKind.wrap_i32]
  omega

theorem tdiv_two (a : Int) : a.tdiv 2 = if 0 ≤ a then a / 2 else -((-a) / 2) := by
  split
  · rw [Int.tdiv_eq_ediv_of_nonneg (by assumption)]
  · have h : (-(-a)).tdiv 2 = -((-a).tdiv 2) := Int.neg_tdiv (-a) 2
    rw [Int.neg_neg] at h
    rw [h, Int.tdiv_eq_ediv_of_nonneg (by omega)]
theorem tmod_two (a : Int) : a.tmod 2 = a - 2 * a.tdiv 2 := by
  have := Int.mul_tdiv_add_tmod a 2
  omega

theorem ret_int {k : IntKind} {a b : Int} (h : a = b) : Ending.returned (.int k a) = .returned (.int k b) := by rw [h]
/-! ### of -/
theorem of_any (v : Int) (r : Bool) (w : World) :
    Calls Try.prog 104 #[.int .i64 v, .bool r] w fun e w' => e = .returned (.tuple #[.int .i32 (ofB v r), .int .i64 (ofE v)]) ∧ w' = w := by
  by_cases a : v < -268435456
  · have e1 : ofB v r = 0 := by simp [ofB, a]
    have e2 : ofE v = 10 := by simp [ofE, a]
    rw [e1, e2]
    clear e1 e2
    go_enter Try.func104, Try.ntmps104
    go_wp2
    go_ret2
    exact ⟨rfl, rfl⟩
  · by_cases b : 268435456 < v
    · have e1 : ofB v r = 0 := by simp [ofB, b]
      have e2 : ofE v = 10 := by simp [ofE, b]
      rw [e1, e2]
      clear e1 e2
      go_enter Try.func104, Try.ntmps104
      go_wp2
      go_ret2
      exact ⟨rfl, rfl⟩
    · cases r
      · have e1 : ofB v false = 2*v := by simp [ofB, a, b]
        have e2 : ofE v = 0 := by simp [ofE, a, b]
        rw [e1, e2]
        clear e1 e2
        go_enter Try.func104, Try.ntmps104
        go_wp2
        go_ret2
        exact ⟨rfl, rfl⟩
      · have e1 : ofB v true = 2*v+1 := by simp [ofB, a, b]
        have e2 : ofE v = 0 := by simp [ofE, a, b]
        rw [e1, e2]
        clear e1 e2
        go_enter Try.func104, Try.ntmps104
        go_wp2
        go_ret2
        exact ⟨rfl, rfl⟩

/-! ### The answer's of -/
theorem rof_any (v : Int) (r : Bool) (w : World) :
    Calls Try.prog 100 #[.int .i64 v, .bool r] w fun e w' => e = .returned (.tuple #[.int .i32 (ofB v r), .int .i64 (ofE v)]) ∧ w' = w := by
  by_cases a : v < -268435456
  · have e1 : ofB v r = 0 := by simp [ofB, a]
    have e2 : ofE v = 10 := by simp [ofE, a]
    rw [e1, e2]
    clear e1 e2
    go_enter Try.func100, Try.ntmps100
    go_wp2
    go_ret2
    exact ⟨rfl, rfl⟩
  · by_cases b : 268435456 < v
    · have e1 : ofB v r = 0 := by simp [ofB, b]
      have e2 : ofE v = 10 := by simp [ofE, b]
      rw [e1, e2]
      clear e1 e2
      go_enter Try.func100, Try.ntmps100
      go_wp2
      go_ret2
      exact ⟨rfl, rfl⟩
    · cases r
      · have e1 : ofB v false = 2*v := by simp [ofB, a, b]
        have e2 : ofE v = 0 := by simp [ofE, a, b]
        rw [e1, e2]
        clear e1 e2
        go_enter Try.func100, Try.ntmps100
        go_wp2
        go_ret2
        exact ⟨rfl, rfl⟩
      · have e1 : ofB v true = 2*v+1 := by simp [ofB, a, b]
        have e2 : ofE v = 0 := by simp [ofE, a, b]
        rw [e1, e2]
        clear e1 e2
        go_enter Try.func100, Try.ntmps100
        go_wp2
        go_ret2
        exact ⟨rfl, rfl⟩

/-! ### number, Right, Value -/
theorem number_any (b : Int) (w : World) (h0 : -2147483648 ≤ b) (h1 : b ≤ 2147483647) :
    Calls Try.prog 71 #[.int .i32 b] w fun e w' => e = .returned (.int .i64 (b / 2)) ∧ w' = w := by
  by_cases h : (b.tmod 2 != 0) = true
  · have e : (b - 1).tdiv 2 = b / 2 := by
      have h' : b.tmod 2 ≠ 0 := by simpa using h
      rw [tmod_two, tdiv_two] at h'
      rw [tdiv_two]
      split at h' <;> split <;> omega
    have E : Hid ((b - 1).tdiv 2 = b / 2) := e
    clear e
    go_enter Try.func71, Try.ntmps71
    go_wp2
    go_ret
    exact ⟨ret_int (E.out), rfl⟩
  · have h : (b.tmod 2 != 0) = false := by simpa using h
    have e : b.tdiv 2 = b / 2 := by
      have h' : b.tmod 2 = 0 := by simpa using h
      rw [tmod_two, tdiv_two] at h'
      rw [tdiv_two]
      split at h' <;> omega
    have E : Hid (b.tdiv 2 = b / 2) := e
    clear e
    go_enter Try.func71, Try.ntmps71
    go_wp2
    go_ret
    exact ⟨ret_int (E.out), rfl⟩

theorem right_any (b : Int) (w : World) :
    Calls Try.prog 31 #[.int .i32 b] w fun e w' => e = .returned (.bool (rightB b)) ∧ w' = w := by
  by_cases h : b = 2147483647
  · subst h
    go_enter Try.func31, Try.ntmps31
    go_wp2
    go_ret
    exact ⟨rfl, rfl⟩
  · have hb : (b == 2147483647) = false := by simpa using h
    by_cases l : -536870912 ≤ b
    · by_cases u : b ≤ 536870913
      · have e : rightB b = true := by simp [rightB, l, u]
        rw [e]
        clear e
        go_enter Try.func31, Try.ntmps31
        go_wp2
        go_ret
        exact ⟨rfl, rfl⟩
      · have e : rightB b = false := by simp [rightB, h, u]
        rw [e]
        clear e
        go_enter Try.func31, Try.ntmps31
        go_wp2
        go_ret
        exact ⟨rfl, rfl⟩
    · have e : rightB b = false := by simp [rightB, h, l]
      rw [e]
      clear e
      go_enter Try.func31, Try.ntmps31
      go_wp2
      go_ret
      exact ⟨rfl, rfl⟩

theorem rright_any (b : Int) (w : World) (h0 : -2147483648 ≤ b) (h1 : b ≤ 2147483647) :
    Calls Try.prog 35 #[.int .i32 b] w fun e w' => e = .returned (.bool (rightB b)) ∧ w' = w := by
  by_cases h : b = 2147483647
  · subst h
    go_enter Try.func35, Try.ntmps35
    go_wp2_with fail
    go_ret
    exact ⟨rfl, rfl⟩
  · have hb : (b == 2147483647) = false := by simpa using h
    by_cases l : -268435456 ≤ b / 2
    · by_cases u : b / 2 ≤ 268435456
      · have e : rightB b = true := by simp [rightB]; omega
        rw [e]
        clear e
        go_enter Try.func35, Try.ntmps35
        go_wp2_with (go_at_call 71; refine (number_any _ _ h0 h1).mono ?_; rintro e w' ⟨rfl, rfl⟩)
        go_ret
        exact ⟨rfl, rfl⟩
      · have e : rightB b = false := by simp [rightB]; omega
        rw [e]
        clear e
        have u : decide (b / 2 ≤ 268435456) = false := by simpa using u
        go_enter Try.func35, Try.ntmps35
        go_wp2_with (go_at_call 71; refine (number_any _ _ h0 h1).mono ?_; rintro e w' ⟨rfl, rfl⟩)
        go_ret
        exact ⟨rfl, rfl⟩
    · have e : rightB b = false := by simp [rightB]; omega
      rw [e]
      clear e
      go_enter Try.func35, Try.ntmps35
      go_wp2_with (go_at_call 71; refine (number_any _ _ h0 h1).mono ?_; rintro e w' ⟨rfl, rfl⟩)
      go_ret
      exact ⟨rfl, rfl⟩

theorem value_inf (w : World) :
    Calls Try.prog 103 #[.int .i32 2147483647] w fun e w' => e = .returned (.tuple #[.int .i64 0, .bool false, .bool false]) ∧ w' = w := by
  go_enter Try.func103, Try.ntmps103
  go_wp2_with fail
  go_ret3
  exact ⟨rfl, rfl⟩
theorem value_any (b : Int) (w : World) :
    Calls Try.prog 103 #[.int .i32 b] w fun e w' => e = .returned (.tuple #[.int .i64 (valV b), .bool (valR b), .bool (finB b)]) ∧ w' = w := by
  by_cases h : b = 2147483647
  · subst h
    exact value_inf w
  · have hb : (b == 2147483647) = false := by simpa using h
    by_cases f : finB b = true
    · have r := right_of_fin f
      have l := (fin_iff b).1 f
      have l0 := l.1
      have l1 := l.2
      have e1 : valV b = b / 2 := by simp [valV, f]
      have e2 : valR b = (bits BinOp.and IntKind.i32 b 1 == 1) := by rw [i32_and1]; simp [valR, f]; rfl
      rw [e1, e2, f]
      clear e1 e2 f l
      go_enter Try.func103, Try.ntmps103
      go_wp2_with (go_at_call 31; refine (right_any _ _).mono ?_; rintro e w' ⟨rfl, rfl⟩)
      go_ret3
      exact ⟨rfl, rfl⟩
    · have f : finB b = false := by simpa using f
      have r : rightB b = false := by
        simp only [finB, rightB, decide_eq_false_iff_not] at *
        omega
      have e1 : valV b = 0 := by simp [valV, f]
      have e2 : valR b = false := by simp [valR, f]
      rw [e1, e2, f]
      clear e1 e2 f
      go_enter Try.func103, Try.ntmps103
      go_wp2_with (go_at_call 31; refine (right_any _ _).mono ?_; rintro e w' ⟨rfl, rfl⟩)
      go_ret3
      exact ⟨rfl, rfl⟩

theorem rvalue_inf (w : World) :
    Calls Try.prog 99 #[.int .i32 2147483647] w fun e w' => e = .returned (.tuple #[.int .i64 0, .bool false, .bool false]) ∧ w' = w := by
  go_enter Try.func99, Try.ntmps99
  go_wp2_with fail
  go_ret3
  exact ⟨rfl, rfl⟩
theorem rvalue_any (b : Int) (w : World) (h0 : -2147483648 ≤ b) (h1 : b ≤ 2147483647) :
    Calls Try.prog 99 #[.int .i32 b] w fun e w' => e = .returned (.tuple #[.int .i64 (valV b), .bool (valR b), .bool (finB b)]) ∧ w' = w := by
  by_cases h : b = 2147483647
  · subst h
    exact rvalue_inf w
  · have hb : (b == 2147483647) = false := by simpa using h
    by_cases f : finB b = true
    · have r := right_of_fin f
      have l := (fin_iff b).1 f
      have l0 := l.1
      have l1 := l.2
      have e1 : valV b = b / 2 := by simp [valV, f]
      have e2 : valR b = (b != 2 * (b / 2)) := by
        rw [Bool.eq_iff_iff]
        simp [valR, f]
        omega
      rw [e1, e2, f]
      clear e1 e2 f l
      go_enter Try.func99, Try.ntmps99
      go_wp2_with (first | (go_at_call 35; refine (rright_any _ _ h0 h1).mono ?_; rintro e w' ⟨rfl, rfl⟩) | (go_at_call 71; refine (number_any _ _ h0 h1).mono ?_; rintro e w' ⟨rfl, rfl⟩))
      go_ret3
      exact ⟨rfl, rfl⟩
    · have f : finB b = false := by simpa using f
      have r : rightB b = false := by
        simp only [finB, rightB, decide_eq_false_iff_not] at *
        omega
      have e1 : valV b = 0 := by simp [valV, f]
      have e2 : valR b = false := by simp [valR, f]
      rw [e1, e2, f]
      clear e1 e2 f
      go_enter Try.func99, Try.ntmps99
      go_wp2_with (go_at_call 35; refine (rright_any _ _ h0 h1).mono ?_; rintro e w' ⟨rfl, rfl⟩)
      go_ret3
      exact ⟨rfl, rfl⟩
end Go.Proofs.Ytnfkmpickmonoaa
