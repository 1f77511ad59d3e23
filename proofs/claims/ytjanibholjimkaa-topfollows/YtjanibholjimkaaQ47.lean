/-
  The contracts of rat.New, Add, Sub, Mul, Compare, Right for all fractions: the one in lowest terms, or the errors.
-/
import Derived.Test.YtjanibholjimkaaQ46
import Derived.Test.YtjanibholjimkaaQ44
namespace Go.Proofs.Ytjanibholjimkaa
open Go.RowKit Go.Shelf
set_option linter.unusedVariables false
abbrev trip (t : Int × Int × Int) : Value := .tuple #[rv t.1 t.2.1, .int .i64 t.2.2]
def addT (an ad bn bd : Int) : Int × Int × Int := if rightR an ad && rightR bn bd then canR (an * bd + bn * ad) (ad * bd) else (0, 0, 7)
def subT (an ad bn bd : Int) : Int × Int × Int := if rightR an ad && rightR bn bd then canR (an * bd - bn * ad) (ad * bd) else (0, 0, 7)
theorem terms_right (n d : Int) (hn : I64 n) (hd : I64 d) (r : rightR n d = true) (w : World) : Calls Try.prog 25 #[rv n d] w fun e w' => e = .returned (tv (sz n) d (decide (n < 0))) ∧ Below w.heap.size w w' := by
  obtain ⟨p1, q1⟩ := right_pos r
  have := termsOf_any n d w hn.1 hn.2 hd.1 hd.2
  rw [q1] at this
  exact this
theorem radd_any (an ad bn bd : Int) (w : World) (ha : I64 an) (hb : I64 ad) (hc : I64 bn) (hd : I64 bd) :
    Calls Try.prog 8 #[rv an ad, rv bn bd] w fun e w' => e = .returned (trip (addT an ad bn bd)) ∧ Below w.heap.size w w' := by
  have ka := askR an ad ha hb
  have kb := askR bn bd hc hd
  cases ra : rightR an ad
  · rw [ra] at ka
    have e : addT an ad bn bd = (0, 0, 7) := by simp [addT, ra]
    rw [e]
    exact radd_not1 an ad bn bd w ka
  · rw [ra] at ka
    cases rb : rightR bn bd
    · rw [rb] at kb
      have e : addT an ad bn bd = (0, 0, 7) := by simp [addT, rb]
      rw [e]
      exact radd_not2 an ad bn bd w ka kb
    · obtain ⟨d0, ca⟩ := right_iff.1 ra
      obtain ⟨e0, cb⟩ := right_iff.1 rb
      obtain ⟨l1, l2, l3, l4⟩ := sum_low (sz an) ad (sz bn) bd (decide (an < 0)) (decide (bn < 0)) (sz_nn _) (sz_nn _) d0 e0 ca cb
      rw [sgn_sz, sgn_sz] at l4
      have e : addT an ad bn bd = canR (an * bd + bn * ad) (ad * bd) := by simp [addT, ra, rb]
      rw [e, can_of (Int.mul_pos d0 e0) l2 l3 l1 l4]
      exact radd_right an ad bn bd w ha hb hc hd ra rb
theorem rsub_any (an ad bn bd : Int) (w : World) (ha : I64 an) (hb : I64 ad) (hc : I64 bn) (hd : I64 bd) :
    Calls Try.prog 11 #[rv an ad, rv bn bd] w fun e w' => e = .returned (trip (subT an ad bn bd)) ∧ Below w.heap.size w w' := by
  have ka := askR an ad ha hb
  have kb := askR bn bd hc hd
  cases ra : rightR an ad
  · rw [ra] at ka
    have e : subT an ad bn bd = (0, 0, 7) := by simp [subT, ra]
    rw [e]
    exact rsub_not1 an ad bn bd w ka
  · rw [ra] at ka
    cases rb : rightR bn bd
    · rw [rb] at kb
      have e : subT an ad bn bd = (0, 0, 7) := by simp [subT, rb]
      rw [e]
      exact rsub_not2 an ad bn bd w ka kb
    · rw [rb] at kb
      obtain ⟨d0, ca⟩ := right_iff.1 ra
      obtain ⟨e0, cb⟩ := right_iff.1 rb
      obtain ⟨l1, l2, l3, l4⟩ := sum_low (sz an) ad (sz bn) bd (decide (an < 0)) (!decide (bn < 0)) (sz_nn _) (sz_nn _) d0 e0 ca cb
      have en : sgn (sz bn) (!decide (bn < 0)) = -bn := by
        have := sgn_sz bn
        revert this
        unfold sgn
        by_cases q : bn < 0 <;> simp [q] <;> omega
      rw [sgn_sz, en, Int.neg_mul, ← Int.sub_eq_add_neg] at l4
      have e : subT an ad bn bd = canR (an * bd - bn * ad) (ad * bd) := by simp [subT, ra, rb]
      rw [e, can_of (Int.mul_pos d0 e0) l2 l3 l1 l4]
      have s1 := sz_bd an ha.1 ha.2
      have s2 := sz_bd bn hc.1 hc.2
      exact rsub_yes an ad bn bd _ _ _ _ _ _ _ _ _ w ka kb (terms_right an ad ha hb ra) (terms_right bn bd hc hd rb) (fun w => opposite_any _ _ _ w) (fun w => rsum_any _ _ _ _ _ _ w ⟨s1.1, s1.2⟩ ⟨d0, by have := hb.2; omega⟩ ⟨s2.1, s2.2⟩ ⟨e0, by have := hd.2; omega⟩)
end Go.Proofs.Ytjanibholjimkaa
