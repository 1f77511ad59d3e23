/-
  The document's answer for layer 3: the sum of two wide bounds, and the wide cells of a row.
-/
import Derived.Test.YtnfkmpickmonoaaGreatQ11
import Derived.Laws.BitsLemmas
import Derived.Laws.OwnMore
namespace Go.Proofs.YtnfkmpickmonoaaGreat
open Go.RowKit
set_option linter.unusedVariables false
set_option maxRecDepth 100000
theorem i64_and1 (n : Int) : bits .and .i64 n 1 = n % 2 := by
  have h1 : (BitVec.ofInt 64 1).toNat = 2 ^ 1 - 1 := by decide
  have key : (BitVec.ofInt 64 n &&& BitVec.ofInt 64 1).toNat = (n % ((2 ^ 64 : Nat) : Int)).toNat % 2 ^ 1 := by
    rw [BitVec.toNat_and, BitVec.toNat_ofInt, h1, Nat.and_two_pow_sub_one_eq_mod]
  show IntKind.i64.wrap ((BitVec.ofInt 64 n &&& BitVec.ofInt 64 1).toNat : Nat) = n % 2
  rw [key, IntKind.wrap_i64]
  omega
theorem i64_or_odd (a b : Int) : bits .or .i64 a b % 2 = if a % 2 = 1 ∨ b % 2 = 1 then 1 else 0 := by
  have key : (BitVec.ofInt 64 a ||| BitVec.ofInt 64 b).toNat % 2 = 1 ↔ (a % ((2 ^ 64 : Nat) : Int)).toNat % 2 = 1 ∨ (b % ((2 ^ 64 : Nat) : Int)).toNat % 2 = 1 := by
    rw [BitVec.toNat_or, BitVec.toNat_ofInt, BitVec.toNat_ofInt, Nat.or_mod_two_eq_one]
  show IntKind.i64.wrap ((BitVec.ofInt 64 a ||| BitVec.ofInt 64 b).toNat : Nat) % 2 = _
  rw [IntKind.wrap_i64]
  generalize (BitVec.ofInt 64 a ||| BitVec.ofInt 64 b).toNat = x at *
  split <;> omega
end Go.Proofs.YtnfkmpickmonoaaGreat

/-
  The document's answer for layer 3: the closed form of wide cells.
-/
namespace Go.Proofs.YtnfkmpickmonoaaGreat
open Go.RowKit
set_option linter.unusedVariables false
set_option maxRecDepth 100000
theorem pos_inj {n i j a c : Nat} (hj : j ≤ n) (hc : c ≤ n) (h : i * (n + 1) + j = a * (n + 1) + c) : i = a ∧ j = c := by
  have h1 : (i * (n + 1) + j) / (n + 1) = i := by rw [Nat.mul_comm, Nat.mul_add_div (by omega), Nat.div_eq_of_lt (by omega)]; rfl
  have h2 : (a * (n + 1) + c) / (n + 1) = a := by rw [Nat.mul_comm, Nat.mul_add_div (by omega), Nat.div_eq_of_lt (by omega)]; rfl
  have e : i = a := by rw [← h1, h, h2]
  subst e
  exact ⟨rfl, by omega⟩
theorem pos_lt {n i j : Nat} (hi : i ≤ n) (hj : j ≤ n) : i * (n + 1) + j < (n + 1) * (n + 1) := by
  have := Nat.mul_le_mul_right (n + 1) (show i + 1 ≤ n + 1 by omega)
  rw [Nat.add_mul] at this
  omega
def rcStep (k i j : Nat) (r : Mat) : Mat := if dplus (r i k) (r k j) < r i j then upd r i j (dplus (r i k) (r k j)) else r
def rcRow (k i : Nat) : Nat → Mat → Mat
  | 0, r => r
  | c + 1, r => rcStep k i c (rcRow k i c r)
def rcAll (k n : Nat) : Nat → Mat → Mat
  | 0, r => r
  | c + 1, r => rcRow k c (n + 1) (rcAll k n c r)
end Go.Proofs.YtnfkmpickmonoaaGreat
