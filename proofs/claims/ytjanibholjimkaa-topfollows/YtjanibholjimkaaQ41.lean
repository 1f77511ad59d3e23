/-
  The contracts of the signed sum of two numbers of 128 bits, of rat.sum for right fractions, and the plain laws of what they tell.
-/
import Derived.Test.YtjanibholjimkaaQ40
namespace Go.Proofs.Ytjanibholjimkaa
open Go.RowKit Go.Shelf
set_option linter.unusedVariables false

def sgn (N : Int) (g : Bool) : Int := if g then -N else N
def addM (M N : Int) (g h : Bool) : Int := if g = h then M + N else if M < N then N - M else M - N
def addG (M N : Int) (g h : Bool) : Bool := if g = h then g else if M < N then h else g
theorem add_sgn (M N : Int) (g h : Bool) : sgn (addM M N g h) (addG M N g h) = sgn M g + sgn N h := by
  unfold sgn addM addG
  cases g <;> cases h <;> simp <;> (try split) <;> (try simp) <;> omega
theorem addM_bd (M N : Int) (g h : Bool) (m0 : 0 ≤ M) (n0 : 0 ≤ N) : 0 ≤ addM M N g h ∧ addM M N g h ≤ M + N := by
  unfold addM
  split
  · omega
  · split <;> omega
theorem addS_any (M N : Int) (g h : Bool) (w : World) (hM : U128 M) (hN : U128 N) (hs : U128 (M + N)) :
    Calls Try.prog 44 #[sv M g, sv N h] w fun e w' => e = .returned (sv (addM M N g h) (addG M N g h)) ∧ Below w.heap.size w w' := by
  by_cases e : g = h
  · have e1 : addM M N g h = M + N := by simp [addM, e]
    have e2 : addG M N g h = g := by simp [addG, e]
    rw [e1, e2]
    exact add_same _ _ _ _ _ _ g h w (by simp [e]) (fun w => plus_any M N w hM hN hs)
  · have en : (g == h) = false := by simpa using e
    by_cases c : M < N
    · have e1 : addM M N g h = N - M := by simp [addM, e, c]
      have e2 : addG M N g h = h := by simp [addG, e, c]
      rw [e1, e2]
      refine add_less _ _ _ _ _ _ g h w en (fun w => ?_) (fun w => minus_any N M w hN hM (by omega))
      have := below_any M N w
      rw [decide_eq_true c] at this
      exact this
    · have e1 : addM M N g h = M - N := by simp [addM, e, c]
      have e2 : addG M N g h = g := by simp [addG, e, c]
      rw [e1, e2]
      refine add_more _ _ _ _ _ _ g h w en (fun w => ?_) (fun w => minus_any M N w hM hN (by omega))
      have := below_any M N w
      rw [decide_eq_false c] at this
      exact this

/-! ### sum -/
def sG (ad bd : Int) : Int := gcdI ad bd
def sM (an ad : Int) (ag : Bool) (bn bd : Int) (bg : Bool) : Int := addM (an * (bd / sG ad bd)) (bn * (ad / sG ad bd)) ag bg
def sS (an ad : Int) (ag : Bool) (bn bd : Int) (bg : Bool) : Bool := addG (an * (bd / sG ad bd)) (bn * (ad / sG ad bd)) ag bg
def sH (an ad : Int) (ag : Bool) (bn bd : Int) (bg : Bool) : Int := gcdI (sM an ad ag bn bd bg % sG ad bd) (sG ad bd)
def sNum (an ad : Int) (ag : Bool) (bn bd : Int) (bg : Bool) : Int := sM an ad ag bn bd bg / sH an ad ag bn bd bg
def sDen (an ad : Int) (ag : Bool) (bn bd : Int) (bg : Bool) : Int := ad / sG ad bd * (bd / sH an ad ag bn bd bg)
theorem gcdI_dvd (a b : Int) (a0 : 0 ≤ a) (b0 : 0 ≤ b) : gcdI a b ∣ a ∧ gcdI a b ∣ b := by
  unfold gcdI
  obtain ⟨x, rfl⟩ := Int.eq_ofNat_of_zero_le a0
  obtain ⟨y, rfl⟩ := Int.eq_ofNat_of_zero_le b0
  exact ⟨Int.natCast_dvd_natCast.2 (by simpa using Nat.gcd_dvd_left x y), Int.natCast_dvd_natCast.2 (by simpa using Nat.gcd_dvd_right x y)⟩
theorem gcdI_pos (a b : Int) (a0 : 0 ≤ a) (b0 : 0 < b) : 0 < gcdI a b := by
  unfold gcdI
  have := Nat.gcd_pos_of_pos_right a.toNat (show 0 < b.toNat by omega)
  omega
theorem gcdI_le_right (a b : Int) (b0 : 0 < b) : gcdI a b ≤ b := by
  unfold gcdI
  have := Nat.gcd_le_right a.toNat (show 0 < b.toNat by omega)
  omega
theorem quo_bd (a g : Int) (a0 : 0 ≤ a) (hg : 0 < g) : 0 ≤ a / g ∧ a / g ≤ a := ⟨Int.ediv_nonneg a0 (by omega), Int.ediv_le_self g a0⟩
theorem prod_bd (a b A B : Int) (a0 : 0 ≤ a) (b0 : 0 ≤ b) (hA : a ≤ A) (hB : b ≤ B) : 0 ≤ a * b ∧ a * b ≤ A * B :=
  ⟨Int.mul_nonneg a0 b0, Int.mul_le_mul hA hB b0 (by omega)⟩
abbrev H63 (x : Int) : Prop := 0 ≤ x ∧ x ≤ 9223372036854775808
abbrev D63 (x : Int) : Prop := 0 < x ∧ x ≤ 9223372036854775808
theorem rsum_any (an ad bn bd : Int) (ag bg : Bool) (w : World) (hn : H63 an) (hd : D63 ad) (kn : H63 bn) (kd : D63 bd) :
    Calls Try.prog 24 #[tv an ad ag, tv bn bd bg] w fun e w' => e = .returned (.tuple #[rv (heldN (sNum an ad ag bn bd bg) (sDen an ad ag bn bd bg) (sS an ad ag bn bd bg)) (heldD (sNum an ad ag bn bd bg) (sDen an ad ag bn bd bg) (sS an ad ag bn bd bg)), .int .i64 (heldE (sNum an ad ag bn bd bg) (sDen an ad ag bn bd bg) (sS an ad ag bn bd bg))]) ∧ Below w.heap.size w w' := by
  obtain ⟨n0, n1⟩ := hn
  obtain ⟨d0, d1⟩ := hd
  obtain ⟨m0, m1⟩ := kn
  obtain ⟨e0, e1⟩ := kd
  have G0 : 0 < sG ad bd := gcdI_pos _ _ (by omega) e0
  have G1 : sG ad bd ≤ bd := gcdI_le_right _ _ e0
  obtain ⟨p0, p1⟩ := quo_bd ad (sG ad bd) (by omega) G0
  obtain ⟨q0, q1⟩ := quo_bd bd (sG ad bd) (by omega) G0
  obtain ⟨x0, x1⟩ := prod_bd an (bd / sG ad bd) 9223372036854775808 9223372036854775808 n0 q0 n1 (by omega)
  obtain ⟨y0, y1⟩ := prod_bd bn (ad / sG ad bd) 9223372036854775808 9223372036854775808 m0 p0 m1 (by omega)
  obtain ⟨M0, M1⟩ := addM_bd (an * (bd / sG ad bd)) (bn * (ad / sG ad bd)) ag bg x0 y0
  have M0 : 0 ≤ sM an ad ag bn bd bg := M0
  have M1 : sM an ad ag bn bd bg ≤ an * (bd / sG ad bd) + bn * (ad / sG ad bd) := M1
  have r0 := Int.emod_nonneg (sM an ad ag bn bd bg) (show sG ad bd ≠ 0 by omega)
  have r1 := Int.emod_lt_of_pos (sM an ad ag bn bd bg) G0
  have H0 : 0 < sH an ad ag bn bd bg := gcdI_pos _ _ r0 G0
  have H1 : sH an ad ag bn bd bg ≤ sG ad bd := gcdI_le_right _ _ G0
  obtain ⟨N0, N1⟩ := quo_bd (sM an ad ag bn bd bg) (sH an ad ag bn bd bg) M0 H0
  obtain ⟨k0, k1⟩ := quo_bd bd (sH an ad ag bn bd bg) (by omega) H0
  obtain ⟨D0, D1⟩ := prod_bd (ad / sG ad bd) (bd / sH an ad ag bn bd bg) 9223372036854775808 9223372036854775808 p0 k0 (by omega) (by omega)
  have uM : U128 (sM an ad ag bn bd bg) := ⟨M0, by omega⟩
  refine sum_raw an ad bn bd (sG ad bd) _ _ _ _ _ _ _ _ _ (sH an ad ag bn bd bg) _ _ _ _ _ _ _ _ ag bg (sS an ad ag bn bd bg) w (by omega) (by omega)
    (quo_eq ad _ (by omega) (by omega) G0) (quo_eq bd _ (by omega) (by omega) G0) (quo_eq bd _ (by omega) (by omega) H0)
    (fun w => gcd_draws ad bd w ⟨by omega, by omega⟩ ⟨by omega, by omega⟩)
    (fun w => times_any an ad (bd / sG ad bd) ag w ⟨by omega, by omega⟩ ⟨by omega, by omega⟩)
    (fun w => times_any bn bd (ad / sG ad bd) bg w ⟨by omega, by omega⟩ ⟨by omega, by omega⟩)
    (fun w => addS_any _ _ ag bg w ⟨by omega, by omega⟩ ⟨by omega, by omega⟩ ⟨by omega, by omega⟩)
    (fun w => over_any (sM an ad ag bn bd bg) (sG ad bd) w uM G0 (by omega))
    (fun w => gcd_draws _ _ w ⟨r0, by omega⟩ ⟨by omega, by omega⟩)
    (fun w => over_any (sM an ad ag bn bd bg) (sH an ad ag bn bd bg) w uM H0 (by omega))
    (fun w => product_any _ _ w ⟨by omega, by omega⟩ ⟨by omega, by omega⟩)
    (fun w => hold_any (sNum an ad ag bn bd bg) (sDen an ad ag bn bd bg) (sS an ad ag bn bd bg) w ⟨N0, ?_⟩ ⟨D0, ?_⟩)
  · have : sNum an ad ag bn bd bg ≤ sM an ad ag bn bd bg := N1
    omega
  · have : sDen an ad ag bn bd bg ≤ 9223372036854775808 * 9223372036854775808 := D1
    omega

/-! ### What the sum tells -/
theorem sgn_mul (a b : Int) (g : Bool) : sgn (a * b) g = sgn a g * b := by
  unfold sgn
  split
  · rw [Int.neg_mul]
  · rfl
end Go.Proofs.Ytjanibholjimkaa
