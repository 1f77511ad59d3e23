/-
  The contracts of rat.Add and rat.Compare for every two fractions.
-/
import Derived.Test.YtjanibholjimkaaQ44
namespace Go.Proofs.Ytjanibholjimkaa
open Go.RowKit Go.Shelf
set_option linter.unusedVariables false
theorem sgn_sz (n : Int) : sgn (sz n) (decide (n < 0)) = n := by
  unfold sgn sz
  by_cases h : n < 0 <;> simp [h]
theorem askR (n d : Int) (hn : I64 n) (hd : I64 d) : AskR n d (rightR n d) := fun w => rightR_any n d w hn.1 hn.2 hd.1 hd.2
theorem right_pos {n d : Int} (h : rightR n d = true) : 0 < d ∧ sz d = d := by
  simp [rightR] at h
  exact ⟨h.1, by unfold sz; rw [if_neg (by omega)]⟩
abbrev addN (an ad bn bd : Int) : Int := heldN (sNum (sz an) ad (decide (an < 0)) (sz bn) bd (decide (bn < 0))) (sDen (sz an) ad (decide (an < 0)) (sz bn) bd (decide (bn < 0))) (sS (sz an) ad (decide (an < 0)) (sz bn) bd (decide (bn < 0)))
abbrev addD (an ad bn bd : Int) : Int := heldD (sNum (sz an) ad (decide (an < 0)) (sz bn) bd (decide (bn < 0))) (sDen (sz an) ad (decide (an < 0)) (sz bn) bd (decide (bn < 0))) (sS (sz an) ad (decide (an < 0)) (sz bn) bd (decide (bn < 0)))
abbrev addE (an ad bn bd : Int) : Int := heldE (sNum (sz an) ad (decide (an < 0)) (sz bn) bd (decide (bn < 0))) (sDen (sz an) ad (decide (an < 0)) (sz bn) bd (decide (bn < 0))) (sS (sz an) ad (decide (an < 0)) (sz bn) bd (decide (bn < 0)))
theorem radd_right (an ad bn bd : Int) (w : World) (ha : I64 an) (hb : I64 ad) (hc : I64 bn) (hd : I64 bd) (ra : rightR an ad = true) (rb : rightR bn bd = true) :
    Calls Try.prog 8 #[rv an ad, rv bn bd] w fun e w' => e = .returned (.tuple #[rv (addN an ad bn bd) (addD an ad bn bd), .int .i64 (addE an ad bn bd)]) ∧ Below w.heap.size w w' := by
  obtain ⟨p1, q1⟩ := right_pos ra
  obtain ⟨p2, q2⟩ := right_pos rb
  have ka := askR an ad ha hb
  have kb := askR bn bd hc hd
  rw [ra] at ka
  rw [rb] at kb
  have ta : ∀ w, Calls Try.prog 25 #[rv an ad] w fun e w' => e = .returned (tv (sz an) ad (decide (an < 0))) ∧ Below w.heap.size w w' := fun w => by
    have := termsOf_any an ad w ha.1 ha.2 hb.1 hb.2
    rw [q1] at this
    exact this
  have tb : ∀ w, Calls Try.prog 25 #[rv bn bd] w fun e w' => e = .returned (tv (sz bn) bd (decide (bn < 0))) ∧ Below w.heap.size w w' := fun w => by
    have := termsOf_any bn bd w hc.1 hc.2 hd.1 hd.2
    rw [q2] at this
    exact this
  have s1 := sz_bd an ha.1 ha.2
  have s2 := sz_bd bn hc.1 hc.2
  exact radd_yes an ad bn bd _ _ _ _ _ _ _ _ _ w ka kb ta tb (fun w => rsum_any _ _ _ _ _ _ w ⟨s1.1, s1.2⟩ ⟨p1, by have := hb.2; omega⟩ ⟨s2.1, s2.2⟩ ⟨p2, by have := hd.2; omega⟩)
def cmpV (an ad bn bd : Int) : Int := if an * bd < bn * ad then -1 else if bn * ad < an * bd then 1 else 0
theorem cmp_pure (an ad bn bd : Int) (p1 : 0 < ad) (p2 : 0 < bd) :
    (if addM (sz an * bd) (sz bn * ad) (decide (an < 0)) (!decide (bn < 0)) = 0 then (0 : Int) else if addG (sz an * bd) (sz bn * ad) (decide (an < 0)) (!decide (bn < 0)) then -1 else 1) = cmpV an ad bn bd := by
  have h := add_sgn (sz an * bd) (sz bn * ad) (decide (an < 0)) (!decide (bn < 0))
  have m0 : 0 ≤ sz an * bd := Int.mul_nonneg (by unfold sz; split <;> omega) (by omega)
  have m1 : 0 ≤ sz bn * ad := Int.mul_nonneg (by unfold sz; split <;> omega) (by omega)
  obtain ⟨b0, -⟩ := addM_bd (sz an * bd) (sz bn * ad) (decide (an < 0)) (!decide (bn < 0)) m0 m1
  rw [sgn_mul, sgn_mul, sgn_sz] at h
  have e : sgn (sz bn) (!decide (bn < 0)) = -bn := by
    have := sgn_sz bn
    revert this
    unfold sgn
    by_cases q : bn < 0 <;> simp [q] <;> omega
  rw [e, Int.neg_mul] at h
  unfold cmpV
  clear m0 m1 e
  generalize an * bd = X at *
  generalize bn * ad = Y at *
  generalize addM _ _ _ _ = M at *
  generalize addG _ _ _ _ = g at *
  cases g
  · have h' : M = X + -Y := by simpa [sgn] using h
    simp only [Bool.false_eq_true, if_false]
    repeat' split
    all_goals omega
  · have h' : -M = X + -Y := by simpa [sgn] using h
    simp only [if_true]
    repeat' split
    all_goals omega
theorem compare_right (an ad bn bd : Int) (w : World) (ha : I64 an) (hb : I64 ad) (hc : I64 bn) (hd : I64 bd) (ra : rightR an ad = true) (rb : rightR bn bd = true) :
    Calls Try.prog 33 #[rv an ad, rv bn bd] w fun e w' => e = .returned (.int .i64 (cmpV an ad bn bd)) ∧ Below w.heap.size w w' := by
  obtain ⟨p1, q1⟩ := right_pos ra
  obtain ⟨p2, q2⟩ := right_pos rb
  have ka := askR an ad ha hb
  have kb := askR bn bd hc hd
  rw [ra] at ka
  rw [rb] at kb
  have ta : ∀ w, Calls Try.prog 25 #[rv an ad] w fun e w' => e = .returned (tv (sz an) ad (decide (an < 0))) ∧ Below w.heap.size w w' := fun w => by
    have := termsOf_any an ad w ha.1 ha.2 hb.1 hb.2
    rw [q1] at this
    exact this
  have tb : ∀ w, Calls Try.prog 25 #[rv bn bd] w fun e w' => e = .returned (tv (sz bn) bd (decide (bn < 0))) ∧ Below w.heap.size w w' := fun w => by
    have := termsOf_any bn bd w hc.1 hc.2 hd.1 hd.2
    rw [q2] at this
    exact this
  have s1 := sz_bd an ha.1 ha.2
  have s2 := sz_bd bn hc.1 hc.2
  have b1 := hb.2
  have b2 := hd.2
  obtain ⟨x0, x1⟩ := prod_bd (sz an) bd 9223372036854775808 9223372036854775808 s1.1 (by omega) s1.2 (by omega)
  obtain ⟨y0, y1⟩ := prod_bd (sz bn) ad 9223372036854775808 9223372036854775808 s2.1 (by omega) s2.2 (by omega)
  obtain ⟨M0, M1⟩ := addM_bd (sz an * bd) (sz bn * ad) (decide (an < 0)) (!decide (bn < 0)) x0 y0
  rw [← cmp_pure an ad bn bd p1 p2]
  exact compare_yes an ad bn bd _ _ _ _ _ _ _ _ _ _ _ _ _ _ w ka kb ta tb
    (fun w => times_any (sz an) ad bd (decide (an < 0)) w ⟨s1.1, by omega⟩ ⟨by omega, by omega⟩)
    (fun w => opposite_any (sz bn) bd (decide (bn < 0)) w)
    (fun w => times_any (sz bn) bd ad (!decide (bn < 0)) w ⟨s2.1, by omega⟩ ⟨by omega, by omega⟩)
    (fun w => addS_any _ _ _ _ w ⟨x0, by omega⟩ ⟨y0, by omega⟩ ⟨by omega, by omega⟩)
    (fun w => sign_any _ _ w ⟨M0, by omega⟩)
end Go.Proofs.Ytjanibholjimkaa
