/-
  The contracts of the smallest functions of package bound and of the document's answer beside it (of, AtMost, LessThan, Right, Value, number): for every argument each returns what the plain functions below say, and the world stays.
-/
import Derived.Test.YtnfkmpickmonoaaGreatChecked
import Derived.WalkKit
import Derived.WalkLawsBesides
import Derived.Laws.BitsLemmas
namespace Go.Proofs.YtnfkmpickmonoaaGreat
open Go.RowKit

/-! ### The plain functions -/
def ofB (v : Int) (r : Bool) : Int := if v < -268435456 ∨ 268435456 < v then 0 else if r then 2*v+1 else 2*v
def ofE (v : Int) : Int := if v < -268435456 ∨ 268435456 < v then 10 else 0
def rightB (b : Int) : Bool := decide (b = 2147483647 ∨ (-536870912 ≤ b ∧ b ≤ 536870913))
def finB (b : Int) : Bool := decide (-536870912 ≤ b ∧ b ≤ 536870913)
def valV (b : Int) : Int := if finB b then b / 2 else 0
def valR (b : Int) : Bool := finB b && decide (b % 2 = 1)

theorem right_of_fin {b : Int} (h : finB b = true) : rightB b = true := by
  simp only [finB, rightB, decide_eq_true_eq] at *; exact .inr h
theorem fin_iff (b : Int) : finB b = true ↔ (-536870912 ≤ b ∧ b ≤ 536870913) := by simp [finB]

theorem i32_and1 (n : Int) : bits .and .i32 n 1 = n % 2 := by
  have h1 : (BitVec.ofInt 32 1).toNat = 2 ^ 1 - 1 := by decide
  have key : (BitVec.ofInt 32 n &&& BitVec.ofInt 32 1).toNat = (n % ((2 ^ 32 : Nat) : Int)).toNat % 2 ^ 1 := by
    rw [BitVec.toNat_and, BitVec.toNat_ofInt, h1, Nat.and_two_pow_sub_one_eq_mod]
  show IntKind.i32.wrap ((BitVec.ofInt 32 n &&& BitVec.ofInt 32 1).toNat : Nat) = n % 2
  rw [key, IntKind.wrap_i32]
  omega

/-! ### of -/
theorem of_any (v : Int) (r : Bool) (w : World) :
    Calls Tryz.prog 135 #[.int .i64 v, .bool r] w fun e w' => e = .returned (.tuple #[.int .i32 (ofB v r), .int .i64 (ofE v)]) ∧ w' = w := by
  by_cases a : v < -268435456
  · have e1 : ofB v r = 0 := by simp [ofB, a]
    have e2 : ofE v = 10 := by simp [ofE, a]
    rw [e1, e2]
    clear e1 e2
    go_enter Tryz.func135, Tryz.ntmps135
    go_wp2
    go_ret2
    exact ⟨rfl, rfl⟩
  · by_cases b : 268435456 < v
    · have e1 : ofB v r = 0 := by simp [ofB, b]
      have e2 : ofE v = 10 := by simp [ofE, b]
      rw [e1, e2]
      clear e1 e2
      go_enter Tryz.func135, Tryz.ntmps135
      go_wp2
      go_ret2
      exact ⟨rfl, rfl⟩
    · cases r
      · have e1 : ofB v false = 2*v := by simp [ofB, a, b]
        have e2 : ofE v = 0 := by simp [ofE, a, b]
        rw [e1, e2]
        clear e1 e2
        go_enter Tryz.func135, Tryz.ntmps135
        go_wp2
        go_ret2
        exact ⟨rfl, rfl⟩
      · have e1 : ofB v true = 2*v+1 := by simp [ofB, a, b]
        have e2 : ofE v = 0 := by simp [ofE, a, b]
        rw [e1, e2]
        clear e1 e2
        go_enter Tryz.func135, Tryz.ntmps135
        go_wp2
        go_ret2
        exact ⟨rfl, rfl⟩

/-! ### The answer's of -/
/-! ### number, Right, Value -/
theorem right_any (b : Int) (w : World) :
    Calls Tryz.prog 37 #[.int .i32 b] w fun e w' => e = .returned (.bool (rightB b)) ∧ w' = w := by
  by_cases h : b = 2147483647
  · subst h
    go_enter Tryz.func37, Tryz.ntmps37
    go_wp2
    go_ret
    exact ⟨rfl, rfl⟩
  · have hb : (b == 2147483647) = false := by simpa using h
    by_cases l : -536870912 ≤ b
    · by_cases u : b ≤ 536870913
      · have e : rightB b = true := by simp [rightB, l, u]
        rw [e]
        clear e
        go_enter Tryz.func37, Tryz.ntmps37
        go_wp2
        go_ret
        exact ⟨rfl, rfl⟩
      · have e : rightB b = false := by simp [rightB, h, u]
        rw [e]
        clear e
        go_enter Tryz.func37, Tryz.ntmps37
        go_wp2
        go_ret
        exact ⟨rfl, rfl⟩
    · have e : rightB b = false := by simp [rightB, h, l]
      rw [e]
      clear e
      go_enter Tryz.func37, Tryz.ntmps37
      go_wp2
      go_ret
      exact ⟨rfl, rfl⟩

theorem value_inf (w : World) :
    Calls Tryz.prog 104 #[.int .i32 2147483647] w fun e w' => e = .returned (.tuple #[.int .i64 0, .bool false, .bool false]) ∧ w' = w := by
  go_enter Tryz.func104, Tryz.ntmps104
  go_wp2_with fail
  go_ret3
  exact ⟨rfl, rfl⟩
theorem value_any (b : Int) (w : World) :
    Calls Tryz.prog 104 #[.int .i32 b] w fun e w' => e = .returned (.tuple #[.int .i64 (valV b), .bool (valR b), .bool (finB b)]) ∧ w' = w := by
  by_cases h : b = 2147483647
  · subst h
    exact value_inf w
  · have hb : (b == 2147483647) = false := by simpa using h
    by_cases f : finB b = true
    · have r := right_of_fin f
      have l := (fin_iff b).1 f
      have l0 := l.1
      have l1 := l.2
      have e1 : valV b = b / 2 := by simp [valV, f]
      have e2 : valR b = (bits BinOp.and IntKind.i32 b 1 == 1) := by rw [i32_and1]; simp [valR, f]; rfl
      rw [e1, e2, f]
      clear e1 e2 f l
      go_enter Tryz.func104, Tryz.ntmps104
      go_wp2_with (go_at_call 37; refine (right_any _ _).mono ?_; rintro e w' ⟨rfl, rfl⟩)
      go_ret3
      exact ⟨rfl, rfl⟩
    · have f : finB b = false := by simpa using f
      have r : rightB b = false := by
        simp only [finB, rightB, decide_eq_false_iff_not] at *
        omega
      have e1 : valV b = 0 := by simp [valV, f]
      have e2 : valR b = false := by simp [valR, f]
      rw [e1, e2, f]
      clear e1 e2 f
      go_enter Tryz.func104, Tryz.ntmps104
      go_wp2_with (go_at_call 37; refine (right_any _ _).mono ?_; rintro e w' ⟨rfl, rfl⟩)
      go_ret3
      exact ⟨rfl, rfl⟩

end Go.Proofs.YtnfkmpickmonoaaGreat
