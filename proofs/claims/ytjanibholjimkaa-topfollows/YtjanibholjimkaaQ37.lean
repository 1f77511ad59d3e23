/-
  Plain laws of long division by two digits of 32 bits (what math/bits.Div64 reckons): the digit that is guessed is never too small, is brought down to the true one, and both digits make the quotient.
-/
import Derived.Lib.BitFns
import Derived.Laws.BitsLemmas
import Derived.Laws.Bits64b
namespace Go.Proofs.Ytjanibholjimkaa

theorem digit_top (Y u v : Int) (hu : 0 ≤ u) (h : u < Y) (hv : v < 4294967296) : (u * 4294967296 + v) / Y < 4294967296 := by
  rw [Int.ediv_lt_iff_lt_mul (by omega)]
  omega
theorem mul_parts (q Y y1 y0 : Int) (hY : Y = y1 * 4294967296 + y0) : q * Y = q * y1 * 4294967296 + q * y0 := by
  rw [hY, Int.mul_add, ← Int.mul_assoc]
theorem digit_step (Y y1 y0 u v q r : Int) (hp : 0 < Y) (hY : Y = y1 * 4294967296 + y0) (h : q * y1 + r = u) (hc : 4294967296 * r + v < q * y0) : (u * 4294967296 + v) / Y < q := by
  rw [Int.ediv_lt_iff_lt_mul hp, mul_parts q Y y1 y0 hY]
  omega
theorem digit_stop (Y y1 y0 u v q r : Int) (hp : 0 < Y) (hY : Y = y1 * 4294967296 + y0) (h : q * y1 + r = u) (hc : q * y0 ≤ 4294967296 * r + v) : q ≤ (u * 4294967296 + v) / Y := by
  rw [Int.le_ediv_iff_mul_le hp, mul_parts q Y y1 y0 hY]
  omega
theorem digit_break (y0 v q r : Int) (h0 : 0 ≤ y0) (h1 : y0 < 4294967296) (hv : 0 ≤ v) (hq : q ≤ 4294967296) (hr : 4294967296 ≤ r) : q * y0 ≤ 4294967296 * r + v := by
  have := Int.mul_le_mul_of_nonneg_right hq h0
  omega
theorem digit_start (Y y1 y0 u v : Int) (h1 : 2147483648 ≤ y1) (hY : Y = y1 * 4294967296 + y0) (h0 : 0 ≤ y0) (h2 : y0 < 4294967296) (hu : 0 ≤ u) (h : u < Y) (hv0 : 0 ≤ v) (hv : v < 4294967296) :
    (u * 4294967296 + v) / Y ≤ u / y1 ∧ u / y1 ≤ 4294967297 ∧ u / y1 * y1 + u % y1 = u := by
  have e := Int.mul_ediv_add_emod u y1
  rw [Int.mul_comm] at e
  refine ⟨?_, ?_, e⟩
  · rw [Int.le_ediv_iff_mul_le (by omega)]
    have hq := Int.mul_ediv_add_emod (u * 4294967296 + v) Y
    have hm := Int.emod_nonneg (u * 4294967296 + v) (show Y ≠ 0 by omega)
    have hQ : 0 ≤ (u * 4294967296 + v) / Y := Int.ediv_nonneg (by omega) (by omega)
    rw [Int.mul_comm, mul_parts _ Y y1 y0 hY] at hq
    have hn : 0 ≤ (u * 4294967296 + v) / Y * y0 := Int.mul_nonneg hQ h0
    omega
  · have : u / y1 < 4294967298 := by
      rw [Int.ediv_lt_iff_lt_mul (by omega)]
      omega
    omega

/-- Both digits make the quotient; what is left, brought back, is the rest. -/
theorem div_total (hi lo y P Y u t v1 v0 : Int) (hP : 0 < P) (hy : 0 < y) (hY : Y = y * P) (hu : u * 18446744073709551616 + t = (hi * 18446744073709551616 + lo) * P) (ht : t = v1 * 4294967296 + v0) :
    ((u * 4294967296 + v1) / Y) * 4294967296 + (((u * 4294967296 + v1) % Y) * 4294967296 + v0) / Y = (hi * 18446744073709551616 + lo) / y ∧
    ((((u * 4294967296 + v1) % Y) * 4294967296 + v0) % Y) / P = (hi * 18446744073709551616 + lo) % y := by
  have hYp : 0 < Y := by rw [hY]; exact Int.mul_pos hy hP
  generalize hV : hi * 18446744073709551616 + lo = V at *
  have e1 := Int.mul_ediv_add_emod (u * 4294967296 + v1) Y
  generalize (u * 4294967296 + v1) / Y = Q1 at *
  generalize (u * 4294967296 + v1) % Y = R1 at *
  have e2 := Int.mul_ediv_add_emod (R1 * 4294967296 + v0) Y
  have r0 := Int.emod_nonneg (R1 * 4294967296 + v0) (show Y ≠ 0 by omega)
  have r1 := Int.emod_lt_of_pos (R1 * 4294967296 + v0) hYp
  generalize (R1 * 4294967296 + v0) / Y = Q0 at *
  generalize (R1 * 4294967296 + v0) % Y = R0 at *
  have k : V * P = (Q1 * 4294967296 + Q0) * Y + R0 := by
    rw [Int.add_mul, Int.mul_assoc, Int.mul_comm 4294967296 Y, ← Int.mul_assoc, Int.mul_comm Q1 Y, Int.mul_comm Q0 Y]
    generalize Y * Q1 = a at *
    generalize Y * Q0 = b at *
    omega
  have hR : R0 = (V - (Q1 * 4294967296 + Q0) * y) * P := by
    rw [Int.sub_mul, Int.mul_assoc, ← hY]
    omega
  generalize Q1 * 4294967296 + Q0 = Q at *
  have d0 : 0 ≤ V - Q * y := by
    rcases Int.lt_or_le (V - Q * y) 0 with h | h
    · have := Int.mul_neg_of_neg_of_pos h hP
      omega
    · exact h
  have d1 : V - Q * y < y := by
    rcases Int.lt_or_le (V - Q * y) y with h | h
    · exact h
    · have := Int.mul_le_mul_of_nonneg_right h (Int.le_of_lt hP)
      omega
  have un := (Int.ediv_emod_unique (a := V) (b := y) (r := V - Q * y) (q := Q) hy).2 ⟨by rw [Int.mul_comm y Q]; omega, d0, d1⟩
  refine ⟨un.1.symm, ?_⟩
  rw [un.2, hR]
  exact Int.mul_ediv_cancel _ (by omega)

/-! ### Normalizing -/
theorem bitLen_spec : ∀ (k x : Nat), x < 2 ^ k → k ≤ 64 → 0 < x → 2 ^ (Lib.bitLen x - 1) ≤ x ∧ x < 2 ^ Lib.bitLen x ∧ 1 ≤ Lib.bitLen x ∧ Lib.bitLen x ≤ k
  | 0, x, h, _, hp => by simp at h; omega
  | k + 1, x, h, hk, hp => by
    have h64 : x < 2 ^ 64 := Nat.lt_of_lt_of_le h (Nat.pow_le_pow_right (by omega) hk)
    have e := Lib.bitLen_half x (by omega) h64
    by_cases h2 : x / 2 = 0
    · have : x = 1 := by omega
      subst this
      have e1 : Lib.bitLen 1 = 1 := by decide
      rw [e1]
      exact ⟨by decide, by decide, by omega, by omega⟩
    · have ih := bitLen_spec k (x / 2) (by rw [Nat.pow_succ] at h; omega) (by omega) (by omega)
      obtain ⟨i1, i2, i3, i4⟩ := ih
      generalize Lib.bitLen (x / 2) = L at *
      rw [e]
      refine ⟨?_, ?_, by omega, by omega⟩
      · have : 1 + L - 1 = (L - 1) + 1 := by omega
        rw [this, Nat.pow_succ]
        omega
      · rw [Nat.add_comm, Nat.pow_succ]
        omega
end Go.Proofs.Ytjanibholjimkaa
