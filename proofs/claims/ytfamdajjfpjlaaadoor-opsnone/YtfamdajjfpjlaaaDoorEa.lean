/-
  The document's answer for layer 3: the sum of two wide bounds, and the wide cells of a row.
-/
import Derived.Test.YtfamdajjfpjlaaaDoorDl
import Derived.Laws.BitsLemmas
namespace Go.Proofs.YtfamdajjfpjlaaaDoor
open Go.RowKit
set_option linter.unusedVariables false
set_option maxRecDepth 100000
theorem i64_and1 (n : Int) : bits .and .i64 n 1 = n % 2 := by
  have h1 : (BitVec.ofInt 64 1).toNat = 2 ^ 1 - 1 := by decide
  have key : (BitVec.ofInt 64 n &&& BitVec.ofInt 64 1).toNat = (n % ((2 ^ 64 : Nat) : Int)).toNat % 2 ^ 1 := by
    rw [BitVec.toNat_and, BitVec.toNat_ofInt, h1, Nat.and_two_pow_sub_one_eq_mod]
  show IntKind.i64.wrap ((BitVec.ofInt 64 n &&& BitVec.ofInt 64 1).toNat : Nat) = n % 2
  rw [key, IntKind.wrap_i64]
  omega
theorem i64_or_odd (a b : Int) : bits .or .i64 a b % 2 = if a % 2 = 1 ∨ b % 2 = 1 then 1 else 0 := by
  have key : (BitVec.ofInt 64 a ||| BitVec.ofInt 64 b).toNat % 2 = 1 ↔ (a % ((2 ^ 64 : Nat) : Int)).toNat % 2 = 1 ∨ (b % ((2 ^ 64 : Nat) : Int)).toNat % 2 = 1 := by
    rw [BitVec.toNat_or, BitVec.toNat_ofInt, BitVec.toNat_ofInt, Nat.or_mod_two_eq_one]
  show IntKind.i64.wrap ((BitVec.ofInt 64 a ||| BitVec.ofInt 64 b).toNat : Nat) % 2 = _
  rw [IntKind.wrap_i64]
  generalize (BitVec.ofInt 64 a ||| BitVec.ofInt 64 b).toNat = x at *
  split <;> omega
def rplus (a b : Int) : Int := if a = opn ∨ b = opn then opn else if ¬ a.tmod 2 = 0 ∨ ¬ b.tmod 2 = 0 then wrap64 (wrap64 (a + b) - 1) else wrap64 (a + b)
theorem wrap_wrap (x : Int) : wrap64 (wrap64 x - 0) = wrap64 x := by unfold wrap64; omega
theorem rplus_eq (a b : Int) : rplus a b = dplus a b := by
  unfold rplus dplus
  split
  · rfl
  · rw [i64_and1, i64_or_odd]
    have ha : (¬ a.tmod 2 = 0) ↔ a % 2 = 1 := by have := Int.emod_two_eq a; have := Int.mul_tdiv_add_tmod a 2; have := Int.lt_tmod_of_pos a (show (0 : Int) < 2 by decide); have := Int.tmod_lt_of_pos a (show (0 : Int) < 2 by decide); omega
    have hb : (¬ b.tmod 2 = 0) ↔ b % 2 = 1 := by have := Int.emod_two_eq b; have := Int.mul_tdiv_add_tmod b 2; have := Int.lt_tmod_of_pos b (show (0 : Int) < 2 by decide); have := Int.tmod_lt_of_pos b (show (0 : Int) < 2 by decide); omega
    simp only [ha, hb]
    split
    · rfl
    · exact (wrap_wrap _).symm
theorem rplus_any (a b : Int) (w : World) :
    Calls Tryd.prog 124 #[.int .i64 a, .int .i64 b] w fun e w' => e = .returned (.int .i64 (dplus a b)) ∧ w' = w := by
  rw [← rplus_eq]
  by_cases h : a = opn
  · have e : rplus a b = opn := by simp [rplus, h]
    rw [e]
    clear e
    unfold opn at *
    go_enter Tryd.func124, Tryd.ntmps124
    go_wp2
    all_goals go_ret
    all_goals first | exact ⟨rfl, rfl⟩ | (exfalso; omega) | (exfalso; simp_all; done) | (rename_i hh; exfalso; simp at hh; omega)
  · by_cases h1 : b = opn
    · have e : rplus a b = opn := by simp [rplus, h1]
      rw [e]
      clear e
      unfold opn at *
      go_enter Tryd.func124, Tryd.ntmps124
      go_wp2
      all_goals go_ret
      all_goals first | exact ⟨rfl, rfl⟩ | (exfalso; omega) | (exfalso; simp_all; done) | (rename_i hh; exfalso; simp at hh; omega)
    · have e : rplus a b = if ¬ a.tmod 2 = 0 ∨ ¬ b.tmod 2 = 0 then wrap64 (wrap64 (a + b) - 1) else wrap64 (a + b) := by simp [rplus, h, h1]
      rw [e]
      clear e
      unfold opn at *
      have t1 : (a == 4611686018427387904) = false := by simpa using h
      have t2 : (b == 4611686018427387904) = false := by simpa using h1
      clear h h1
      by_cases ca : a.tmod 2 = 0
      · by_cases cb : b.tmod 2 = 0
        · rw [if_neg (by omega)]
          go_enter Tryd.func124, Tryd.ntmps124
          go_wp2
          all_goals go_ret
          all_goals first | exact ⟨rfl, rfl⟩ | (exfalso; simp_all; done)
        · rw [if_pos (by omega)]
          have cb' : (b.tmod 2 != 0) = true := by simpa using cb
          go_enter Tryd.func124, Tryd.ntmps124
          go_wp2
          all_goals go_ret
          all_goals first | exact ⟨rfl, rfl⟩ | (exfalso; simp_all; done)
      · rw [if_pos (by omega)]
        have ca' : (a.tmod 2 != 0) = true := by simpa using ca
        go_enter Tryd.func124, Tryd.ntmps124
        go_wp2
        all_goals go_ret
        all_goals first | exact ⟨rfl, rfl⟩ | (exfalso; simp_all; done)
end Go.Proofs.YtfamdajjfpjlaaaDoor
