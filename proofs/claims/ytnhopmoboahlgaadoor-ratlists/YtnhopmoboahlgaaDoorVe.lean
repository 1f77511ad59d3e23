/-
  The contracts of rat.New, Add, Sub, Mul, Compare, Right for all fractions: the one in lowest terms, or the errors.
-/
import Derived.Test.YtnhopmoboahlgaaDoorVc
import Derived.Test.YtnhopmoboahlgaaDoorVd
namespace Go.Proofs.YtnhopmoboahlgaaDoor
open Go.RowKit Go.Shelf
set_option linter.unusedVariables false
abbrev trip (t : Int × Int × Int) : Value := .tuple #[rv t.1 t.2.1, .int .i64 t.2.2]
theorem multiply_any (an ad bn bd : Int) (ag bg : Bool) (w : World) (hn : H63 an) (hd : D63 ad) (kn : H63 bn) (kd : D63 bd) :
    Calls Tryd.prog 48 #[tv an ad ag, tv bn bd bg] w fun e w' => e = .returned (trip (hR (mNum an bn ad bd) (mDen an bn ad bd) (ag != bg))) ∧ Below w.heap.size w w' := by
  obtain ⟨n0, n1⟩ := hn
  obtain ⟨d0, d1⟩ := hd
  obtain ⟨m0, m1⟩ := kn
  obtain ⟨e0, e1⟩ := kd
  have G0 := gcdI_pos an bd n0 e0
  have H0 := gcdI_pos bn ad m0 d0
  obtain ⟨a1, a2⟩ := quo_bd an (gcdI an bd) n0 G0
  obtain ⟨b1, b2⟩ := quo_bd bn (gcdI bn ad) m0 H0
  obtain ⟨c1, c2⟩ := quo_bd ad (gcdI bn ad) (by omega) H0
  obtain ⟨f1, f2⟩ := quo_bd bd (gcdI an bd) (by omega) G0
  obtain ⟨N0, N1⟩ := prod_bd (an / gcdI an bd) (bn / gcdI bn ad) 9223372036854775808 9223372036854775808 a1 b1 (by omega) (by omega)
  obtain ⟨D0, D1⟩ := prod_bd (ad / gcdI bn ad) (bd / gcdI an bd) 9223372036854775808 9223372036854775808 c1 f1 (by omega) (by omega)
  exact multiply_raw an ad bn bd (gcdI an bd) (gcdI bn ad) _ _ _ _ _ _ _ ag bg w (by omega) (by omega)
    (quo_eq an _ n0 (by omega) G0) (quo_eq bn _ m0 (by omega) H0) (quo_eq ad _ (by omega) (by omega) H0) (quo_eq bd _ (by omega) (by omega) G0)
    (fun w => gcd_draws an bd w ⟨by omega, by omega⟩ ⟨by omega, by omega⟩) (fun w => gcd_draws bn ad w ⟨by omega, by omega⟩ ⟨by omega, by omega⟩)
    (fun w => product_any _ _ w ⟨by omega, by omega⟩ ⟨by omega, by omega⟩) (fun w => product_any _ _ w ⟨by omega, by omega⟩ ⟨by omega, by omega⟩)
    (fun w => hold_any _ _ _ w ⟨N0, by omega⟩ ⟨D0, by omega⟩)
def addT (an ad bn bd : Int) : Int × Int × Int := if rightR an ad && rightR bn bd then canR (an * bd + bn * ad) (ad * bd) else (0, 0, 7)
def subT (an ad bn bd : Int) : Int × Int × Int := if rightR an ad && rightR bn bd then canR (an * bd - bn * ad) (ad * bd) else (0, 0, 7)
def mulT (an ad bn bd : Int) : Int × Int × Int := if rightR an ad && rightR bn bd then canR (an * bn) (ad * bd) else (0, 0, 7)
def newT (n d : Int) : Int × Int × Int := if d = 0 then (0, 0, 21) else canR (sgn n (decide (d < 0))) (sz d)
theorem terms_right (n d : Int) (hn : I64 n) (hd : I64 d) (r : rightR n d = true) (w : World) : Calls Tryd.prog 44 #[rv n d] w fun e w' => e = .returned (tv (sz n) d (decide (n < 0))) ∧ Below w.heap.size w w' := by
  obtain ⟨p1, q1⟩ := right_pos r
  have := termsOf_any n d w hn.1 hn.2 hd.1 hd.2
  rw [q1] at this
  exact this
theorem radd_any (an ad bn bd : Int) (w : World) (ha : I64 an) (hb : I64 ad) (hc : I64 bn) (hd : I64 bd) :
    Calls Tryd.prog 14 #[rv an ad, rv bn bd] w fun e w' => e = .returned (trip (addT an ad bn bd)) ∧ Below w.heap.size w w' := by
  have ka := askR an ad ha hb
  have kb := askR bn bd hc hd
  cases ra : rightR an ad
  · rw [ra] at ka
    have e : addT an ad bn bd = (0, 0, 7) := by simp [addT, ra]
    rw [e]
    exact radd_not1 an ad bn bd w ka
  · rw [ra] at ka
    cases rb : rightR bn bd
    · rw [rb] at kb
      have e : addT an ad bn bd = (0, 0, 7) := by simp [addT, rb]
      rw [e]
      exact radd_not2 an ad bn bd w ka kb
    · obtain ⟨d0, ca⟩ := right_iff.1 ra
      obtain ⟨e0, cb⟩ := right_iff.1 rb
      obtain ⟨l1, l2, l3, l4⟩ := sum_low (sz an) ad (sz bn) bd (decide (an < 0)) (decide (bn < 0)) (sz_nn _) (sz_nn _) d0 e0 ca cb
      rw [sgn_sz, sgn_sz] at l4
      have e : addT an ad bn bd = canR (an * bd + bn * ad) (ad * bd) := by simp [addT, ra, rb]
      rw [e, can_of (Int.mul_pos d0 e0) l2 l3 l1 l4]
      exact radd_right an ad bn bd w ha hb hc hd ra rb
theorem rsub_any (an ad bn bd : Int) (w : World) (ha : I64 an) (hb : I64 ad) (hc : I64 bn) (hd : I64 bd) :
    Calls Tryd.prog 16 #[rv an ad, rv bn bd] w fun e w' => e = .returned (trip (subT an ad bn bd)) ∧ Below w.heap.size w w' := by
  have ka := askR an ad ha hb
  have kb := askR bn bd hc hd
  cases ra : rightR an ad
  · rw [ra] at ka
    have e : subT an ad bn bd = (0, 0, 7) := by simp [subT, ra]
    rw [e]
    exact rsub_not1 an ad bn bd w ka
  · rw [ra] at ka
    cases rb : rightR bn bd
    · rw [rb] at kb
      have e : subT an ad bn bd = (0, 0, 7) := by simp [subT, rb]
      rw [e]
      exact rsub_not2 an ad bn bd w ka kb
    · rw [rb] at kb
      obtain ⟨d0, ca⟩ := right_iff.1 ra
      obtain ⟨e0, cb⟩ := right_iff.1 rb
      obtain ⟨l1, l2, l3, l4⟩ := sum_low (sz an) ad (sz bn) bd (decide (an < 0)) (!decide (bn < 0)) (sz_nn _) (sz_nn _) d0 e0 ca cb
      have en : sgn (sz bn) (!decide (bn < 0)) = -bn := by
        have := sgn_sz bn
        revert this
        unfold sgn
        by_cases q : bn < 0 <;> simp [q] <;> omega
      rw [sgn_sz, en, Int.neg_mul, ← Int.sub_eq_add_neg] at l4
      have e : subT an ad bn bd = canR (an * bd - bn * ad) (ad * bd) := by simp [subT, ra, rb]
      rw [e, can_of (Int.mul_pos d0 e0) l2 l3 l1 l4]
      have s1 := sz_bd an ha.1 ha.2
      have s2 := sz_bd bn hc.1 hc.2
      exact rsub_yes an ad bn bd _ _ _ _ _ _ _ _ _ w ka kb (terms_right an ad ha hb ra) (terms_right bn bd hc hd rb) (fun w => opposite_any _ _ _ w) (fun w => rsum_any _ _ _ _ _ _ w ⟨s1.1, s1.2⟩ ⟨d0, by have := hb.2; omega⟩ ⟨s2.1, s2.2⟩ ⟨e0, by have := hd.2; omega⟩)
theorem sgn_two (x y : Int) (g h : Bool) : sgn (x * y) (g != h) = sgn x g * sgn y h := by
  unfold sgn
  cases g <;> cases h <;> simp [Int.neg_mul, Int.mul_neg]
theorem rmul_any (an ad bn bd : Int) (w : World) (ha : I64 an) (hb : I64 ad) (hc : I64 bn) (hd : I64 bd) :
    Calls Tryd.prog 18 #[rv an ad, rv bn bd] w fun e w' => e = .returned (trip (mulT an ad bn bd)) ∧ Below w.heap.size w w' := by
  have ka := askR an ad ha hb
  have kb := askR bn bd hc hd
  cases ra : rightR an ad
  · rw [ra] at ka
    have e : mulT an ad bn bd = (0, 0, 7) := by simp [mulT, ra]
    rw [e]
    exact rmul_not1 an ad bn bd w ka
  · rw [ra] at ka
    cases rb : rightR bn bd
    · rw [rb] at kb
      have e : mulT an ad bn bd = (0, 0, 7) := by simp [mulT, rb]
      rw [e]
      exact rmul_not2 an ad bn bd w ka kb
    · rw [rb] at kb
      obtain ⟨d0, ca⟩ := right_iff.1 ra
      obtain ⟨e0, cb⟩ := right_iff.1 rb
      obtain ⟨l1, l2, l3, l4⟩ := mul_low (sz an) ad (sz bn) bd (sz_nn _) (sz_nn _) d0 e0 ca cb
      have e : mulT an ad bn bd = hR (mNum (sz an) (sz bn) ad bd) (mDen (sz an) (sz bn) ad bd) (decide (an < 0) != decide (bn < 0)) := by
        unfold mulT
        rw [ra, rb]
        refine can_of (Int.mul_pos d0 e0) l2 l3 l1 ?_
        rw [← sgn_mul', l4, sgn_mul', sgn_two, sgn_sz, sgn_sz]
      rw [e]
      have s1 := sz_bd an ha.1 ha.2
      have s2 := sz_bd bn hc.1 hc.2
      exact rmul_yes an ad bn bd _ _ _ _ _ _ _ _ _ w ka kb (terms_right an ad ha hb ra) (terms_right bn bd hc hd rb) (fun w => multiply_any _ _ _ _ _ _ w ⟨s1.1, s1.2⟩ ⟨d0, by have := hb.2; omega⟩ ⟨s2.1, s2.2⟩ ⟨e0, by have := hd.2; omega⟩)
theorem rnew_any (n d : Int) (w : World) (hn : I64 n) (hd : I64 d) :
    Calls Tryd.prog 7 #[.int .i64 n, .int .i64 d] w fun e w' => e = .returned (trip (newT n d)) ∧ Below w.heap.size w w' := by
  by_cases z : d = 0
  · subst z
    exact new_zero n w
  · have s1 := sz_bd n hn.1 hn.2
    have s2 := sz_bd d hd.1 hd.2
    have p : 0 < sz d := by unfold sz; split <;> omega
    have G0 := gcdI_pos (sz n) (sz d) s1.1 p
    have G1 := gcdI_le_right (sz n) (sz d) p
    obtain ⟨a1, a2⟩ := quo_bd (sz n) (gcdI (sz n) (sz d)) s1.1 G0
    obtain ⟨b1, b2⟩ := quo_bd (sz d) (gcdI (sz n) (sz d)) s2.1 G0
    have e : newT n d = hR (sz n / gcdI (sz n) (sz d)) (sz d / gcdI (sz n) (sz d)) (decide (n < 0) != decide (d < 0)) := by
      unfold newT
      rw [if_neg z]
      unfold canR
      have e1 : sz (sgn n (decide (d < 0))) = sz n := by
        unfold sgn sz
        by_cases c : d < 0 <;> simp [c] <;> (repeat' split) <;> omega
      rw [e1]
      by_cases y : n = 0
      · subst y
        have : sz 0 / gcdI (sz 0) (sz d) = 0 := by simp [sz]
        rw [this]
        exact hR_zero _ _ _
      · have : decide (sgn n (decide (d < 0)) < 0) = (decide (n < 0) != decide (d < 0)) := by
          unfold sgn
          by_cases c : d < 0 <;> by_cases k : n < 0 <;> simp [c, k] <;> omega
        rw [this]
    rw [e]
    have hh : ∀ w, Calls Tryd.prog 36 #[.agg #[.int .u64 0, .int .u64 (sz n / gcdI (sz n) (sz d)), .bool (decide (n < 0) != decide (d < 0))], .agg #[.int .u64 0, .int .u64 (sz d / gcdI (sz n) (sz d))]] w fun e w' => e = .returned (trip (hR (sz n / gcdI (sz n) (sz d)) (sz d / gcdI (sz n) (sz d)) (decide (n < 0) != decide (d < 0)))) ∧ Below w.heap.size w w' := fun w => by
      have := hold_any (sz n / gcdI (sz n) (sz d)) (sz d / gcdI (sz n) (sz d)) (decide (n < 0) != decide (d < 0)) w ⟨a1, by omega⟩ ⟨b1, by omega⟩
      unfold sv wv at this
      rw [hi_small a1 (by omega), lo_small a1 (by omega), hi_small b1 (by omega), lo_small b1 (by omega)] at this
      exact this
    exact new_raw n d (sz n) (sz d) (gcdI (sz n) (sz d)) _ _ w _ _ _ rfl rfl (by simpa using z) G0 (by omega) s1.1 (by omega) s2.1 (by omega)
      (fun w => size_any n w hn.1 hn.2) (fun w => size_any d w hd.1 hd.2) (fun w => gcd_draws _ _ w ⟨s1.1, by omega⟩ ⟨s2.1, by omega⟩) (fun w => narrow_any _ w) (fun w => narrow_any _ w) hh
end Go.Proofs.YtnhopmoboahlgaaDoor
