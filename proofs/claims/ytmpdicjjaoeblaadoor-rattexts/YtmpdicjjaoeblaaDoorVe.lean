/-
  The contracts of rat.New, Add, Sub, Mul, Compare, Right for all fractions: the one in lowest terms, or the errors.
-/
import Derived.Test.YtmpdicjjaoeblaaDoorVc
import Derived.Test.YtmpdicjjaoeblaaDoorVd
namespace Go.Proofs.YtmpdicjjaoeblaaDoor
open Go.RowKit Go.Shelf
set_option linter.unusedVariables false
abbrev trip (t : Int × Int × Int) : Value := .tuple #[rv t.1 t.2.1, .int .i64 t.2.2]
def addT (an ad bn bd : Int) : Int × Int × Int := if rightR an ad && rightR bn bd then canR (an * bd + bn * ad) (ad * bd) else (0, 0, 7)
def subT (an ad bn bd : Int) : Int × Int × Int := if rightR an ad && rightR bn bd then canR (an * bd - bn * ad) (ad * bd) else (0, 0, 7)
def mulT (an ad bn bd : Int) : Int × Int × Int := if rightR an ad && rightR bn bd then canR (an * bn) (ad * bd) else (0, 0, 7)
def newT (n d : Int) : Int × Int × Int := if d = 0 then (0, 0, 21) else canR (sgn n (decide (d < 0))) (sz d)
theorem terms_right (n d : Int) (hn : I64 n) (hd : I64 d) (r : rightR n d = true) (w : World) : Calls Tryd.prog 27 #[rv n d] w fun e w' => e = .returned (tv (sz n) d (decide (n < 0))) ∧ Below w.heap.size w w' := by
  obtain ⟨p1, q1⟩ := right_pos r
  have := termsOf_any n d w hn.1 hn.2 hd.1 hd.2
  rw [q1] at this
  exact this
theorem radd_any (an ad bn bd : Int) (w : World) (ha : I64 an) (hb : I64 ad) (hc : I64 bn) (hd : I64 bd) :
    Calls Tryd.prog 17 #[rv an ad, rv bn bd] w fun e w' => e = .returned (trip (addT an ad bn bd)) ∧ Below w.heap.size w w' := by
  have ka := askR an ad ha hb
  have kb := askR bn bd hc hd
  cases ra : rightR an ad
  · rw [ra] at ka
    have e : addT an ad bn bd = (0, 0, 7) := by simp [addT, ra]
    rw [e]
    exact radd_not1 an ad bn bd w ka
  · rw [ra] at ka
    cases rb : rightR bn bd
    · rw [rb] at kb
      have e : addT an ad bn bd = (0, 0, 7) := by simp [addT, rb]
      rw [e]
      exact radd_not2 an ad bn bd w ka kb
    · obtain ⟨d0, ca⟩ := right_iff.1 ra
      obtain ⟨e0, cb⟩ := right_iff.1 rb
      obtain ⟨l1, l2, l3, l4⟩ := sum_low (sz an) ad (sz bn) bd (decide (an < 0)) (decide (bn < 0)) (sz_nn _) (sz_nn _) d0 e0 ca cb
      rw [sgn_sz, sgn_sz] at l4
      have e : addT an ad bn bd = canR (an * bd + bn * ad) (ad * bd) := by simp [addT, ra, rb]
      rw [e, can_of (Int.mul_pos d0 e0) l2 l3 l1 l4]
      exact radd_right an ad bn bd w ha hb hc hd ra rb
theorem sgn_two (x y : Int) (g h : Bool) : sgn (x * y) (g != h) = sgn x g * sgn y h := by
  unfold sgn
  cases g <;> cases h <;> simp [Int.neg_mul, Int.mul_neg]
theorem rnew_any (n d : Int) (w : World) (hn : I64 n) (hd : I64 d) :
    Calls Tryd.prog 16 #[.int .i64 n, .int .i64 d] w fun e w' => e = .returned (trip (newT n d)) ∧ Below w.heap.size w w' := by
  by_cases z : d = 0
  · subst z
    exact new_zero n w
  · have s1 := sz_bd n hn.1 hn.2
    have s2 := sz_bd d hd.1 hd.2
    have p : 0 < sz d := by unfold sz; split <;> omega
    have G0 := gcdI_pos (sz n) (sz d) s1.1 p
    have G1 := gcdI_le_right (sz n) (sz d) p
    obtain ⟨a1, a2⟩ := quo_bd (sz n) (gcdI (sz n) (sz d)) s1.1 G0
    obtain ⟨b1, b2⟩ := quo_bd (sz d) (gcdI (sz n) (sz d)) s2.1 G0
    have e : newT n d = hR (sz n / gcdI (sz n) (sz d)) (sz d / gcdI (sz n) (sz d)) (decide (n < 0) != decide (d < 0)) := by
      unfold newT
      rw [if_neg z]
      unfold canR
      have e1 : sz (sgn n (decide (d < 0))) = sz n := by
        unfold sgn sz
        by_cases c : d < 0 <;> simp [c] <;> (repeat' split) <;> omega
      rw [e1]
      by_cases y : n = 0
      · subst y
        have : sz 0 / gcdI (sz 0) (sz d) = 0 := by simp [sz]
        rw [this]
        exact hR_zero _ _ _
      · have : decide (sgn n (decide (d < 0)) < 0) = (decide (n < 0) != decide (d < 0)) := by
          unfold sgn
          by_cases c : d < 0 <;> by_cases k : n < 0 <;> simp [c, k] <;> omega
        rw [this]
    rw [e]
    have hh : ∀ w, Calls Tryd.prog 24 #[.agg #[.int .u64 0, .int .u64 (sz n / gcdI (sz n) (sz d)), .bool (decide (n < 0) != decide (d < 0))], .agg #[.int .u64 0, .int .u64 (sz d / gcdI (sz n) (sz d))]] w fun e w' => e = .returned (trip (hR (sz n / gcdI (sz n) (sz d)) (sz d / gcdI (sz n) (sz d)) (decide (n < 0) != decide (d < 0)))) ∧ Below w.heap.size w w' := fun w => by
      have := hold_any (sz n / gcdI (sz n) (sz d)) (sz d / gcdI (sz n) (sz d)) (decide (n < 0) != decide (d < 0)) w ⟨a1, by omega⟩ ⟨b1, by omega⟩
      unfold sv wv at this
      rw [hi_small a1 (by omega), lo_small a1 (by omega), hi_small b1 (by omega), lo_small b1 (by omega)] at this
      exact this
    exact new_raw n d (sz n) (sz d) (gcdI (sz n) (sz d)) _ _ w _ _ _ rfl rfl (by simpa using z) G0 (by omega) s1.1 (by omega) s2.1 (by omega)
      (fun w => size_any n w hn.1 hn.2) (fun w => size_any d w hd.1 hd.2) (fun w => gcd_draws _ _ w ⟨s1.1, by omega⟩ ⟨s2.1, by omega⟩) (fun w => narrow_any _ w) (fun w => narrow_any _ w) hh
end Go.Proofs.YtmpdicjjaoeblaaDoor
