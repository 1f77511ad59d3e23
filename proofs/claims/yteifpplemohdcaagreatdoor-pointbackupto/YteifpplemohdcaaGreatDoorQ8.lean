/-
  The contracts of rat.Sub and rat.Mul, by those of what they call.
-/
import Derived.Test.YteifpplemohdcaaGreatDoorQ7
import Derived.Test.YteifpplemohdcaaGreatDoorShelf
import Derived.OpenShut
import Derived.Lib.AppendIntMem
import Derived.Lib.ItoaLen
namespace Go.Proofs.YteifpplemohdcaaGreatDoor
open Go.RowKit Go.Shelf
set_option linter.unusedVariables false
theorem rsub_not1 (an ad bn bd : Int) (w : World) (HR : Hid (AskR an ad false)) :
    Calls Tryz.prog 103 #[rv an ad, rv bn bd] w fun e w' => e = .returned (.tuple #[rv 0 0, .int .i64 7]) ∧ Below w.heap.size w w' := by
  have n1 : ¬ w.heap.size = w.heap.size + 1 + 1 := by omega
  have n2 : ¬ w.heap.size + 1 + 1 = w.heap.size := by omega
  go_enter Tryz.func103, Tryz.ntmps103
  go_wp2_with fail
  refine (HR.out _).mono ?_
  rintro e w1 ⟨rfl, hb⟩
  have s0 := kc ⟨w.heap.size, 0, none⟩ (.int .i64 an) hb (by first | assumption | simp [go_sem, *])
  have s1 := kc ⟨w.heap.size, 1, none⟩ (.int .i64 ad) hb (by first | assumption | simp [go_sem, *])
  have s2 := kc ⟨w.heap.size + 1, 0, none⟩ (.int .i64 bn) hb (by first | assumption | simp [go_sem, *])
  have s3 := kc ⟨w.heap.size + 1, 1, none⟩ (.int .i64 bd) hb (by first | assumption | simp [go_sem, *])
  have s4 := kc ⟨w.heap.size + 1 + 1, 0, none⟩ (.int .i64 0) hb (by first | assumption | simp [go_sem, *])
  have s5 := kc ⟨w.heap.size + 1 + 1, 1, none⟩ (.int .i64 0) hb (by first | assumption | simp [go_sem, *])
  have sf0 := kf ⟨w.heap.size + 1 + 1, 0, none⟩ (.int .i64 0) hb (by first | assumption | simp [go_sem, *]) (by first | assumption | simp [go_sem, *])
  have sf1 := kf ⟨w.heap.size + 1 + 1, 1, none⟩ (.int .i64 0) hb (by first | assumption | simp [go_sem, *]) (by first | assumption | simp [go_sem, *])
  have hB := beyond (three w _ _ _) hb
  clear hb
  go_wp2_with fail
  refine bodyPost_ret (v := .tuple #[rv 0 0, .int .i64 7]) (by simp [results, Tryz.results103, go_sem, *]) rfl ⟨rfl, ?_⟩
  first | exact hB | exact set2 hB (by omega) _ _
theorem rsub_not2 (an ad bn bd : Int) (w : World) (HR : Hid (AskR an ad true)) (HR2 : Hid (AskR bn bd false)) :
    Calls Tryz.prog 103 #[rv an ad, rv bn bd] w fun e w' => e = .returned (.tuple #[rv 0 0, .int .i64 7]) ∧ Below w.heap.size w w' := by
  have n1 : ¬ w.heap.size = w.heap.size + 1 + 1 := by omega
  have n2 : ¬ w.heap.size + 1 + 1 = w.heap.size := by omega
  go_enter Tryz.func103, Tryz.ntmps103
  go_wp2_with fail
  refine (HR.out _).mono ?_
  rintro e w1 ⟨rfl, hb⟩
  have s0 := kc ⟨w.heap.size, 0, none⟩ (.int .i64 an) hb (by first | assumption | simp [go_sem, *])
  have s1 := kc ⟨w.heap.size, 1, none⟩ (.int .i64 ad) hb (by first | assumption | simp [go_sem, *])
  have s2 := kc ⟨w.heap.size + 1, 0, none⟩ (.int .i64 bn) hb (by first | assumption | simp [go_sem, *])
  have s3 := kc ⟨w.heap.size + 1, 1, none⟩ (.int .i64 bd) hb (by first | assumption | simp [go_sem, *])
  have s4 := kc ⟨w.heap.size + 1 + 1, 0, none⟩ (.int .i64 0) hb (by first | assumption | simp [go_sem, *])
  have s5 := kc ⟨w.heap.size + 1 + 1, 1, none⟩ (.int .i64 0) hb (by first | assumption | simp [go_sem, *])
  have sf0 := kf ⟨w.heap.size + 1 + 1, 0, none⟩ (.int .i64 0) hb (by first | assumption | simp [go_sem, *]) (by first | assumption | simp [go_sem, *])
  have sf1 := kf ⟨w.heap.size + 1 + 1, 1, none⟩ (.int .i64 0) hb (by first | assumption | simp [go_sem, *]) (by first | assumption | simp [go_sem, *])
  have hB := beyond (three w _ _ _) hb
  clear hb
  go_wp2_with fail
  refine (HR2.out _).mono ?_
  rintro e w2 ⟨rfl, hb2⟩
  have u0 := kc ⟨w.heap.size, 0, none⟩ (.int .i64 an) hb2 (by first | assumption | simp [go_sem, *])
  have u1 := kc ⟨w.heap.size, 1, none⟩ (.int .i64 ad) hb2 (by first | assumption | simp [go_sem, *])
  have u2 := kc ⟨w.heap.size + 1, 0, none⟩ (.int .i64 bn) hb2 (by first | assumption | simp [go_sem, *])
  have u3 := kc ⟨w.heap.size + 1, 1, none⟩ (.int .i64 bd) hb2 (by first | assumption | simp [go_sem, *])
  have u4 := kc ⟨w.heap.size + 1 + 1, 0, none⟩ (.int .i64 0) hb2 (by first | assumption | simp [go_sem, *])
  have u5 := kc ⟨w.heap.size + 1 + 1, 1, none⟩ (.int .i64 0) hb2 (by first | assumption | simp [go_sem, *])
  have uf0 := kf ⟨w.heap.size + 1 + 1, 0, none⟩ (.int .i64 0) hb2 (by first | assumption | simp [go_sem, *]) (by first | assumption | simp [go_sem, *])
  have uf1 := kf ⟨w.heap.size + 1 + 1, 1, none⟩ (.int .i64 0) hb2 (by first | assumption | simp [go_sem, *]) (by first | assumption | simp [go_sem, *])
  have hB2 := beyond hB hb2
  clear hb2 hB s0 s1 s2 s3 s4 s5 sf0 sf1
  go_wp2_with fail
  refine bodyPost_ret (v := .tuple #[rv 0 0, .int .i64 7]) (by simp [results, Tryz.results103, go_sem, *]) rfl ⟨rfl, ?_⟩
  first | exact hB2 | exact set2 hB2 (by omega) _ _
set_option maxRecDepth 100000 in
set_option maxHeartbeats 4000000 in
theorem rsub_yes (an ad bn bd p1 q1 p2 q2 n d c : Int) (g1 g2 : Bool) (w : World) (HR : Hid (AskR an ad true)) (HR2 : Hid (AskR bn bd true))
    (HTa : Hid (∀ w, Calls Tryz.prog 125 #[rv an ad] w fun e w' => e = .returned (tv p1 q1 g1) ∧ Below w.heap.size w w'))
    (HTb : Hid (∀ w, Calls Tryz.prog 125 #[rv bn bd] w fun e w' => e = .returned (tv p2 q2 g2) ∧ Below w.heap.size w w'))
    (HO : Hid (∀ w, Calls Tryz.prog 128 #[tv p2 q2 g2] w fun e w' => e = .returned (tv p2 q2 (!g2)) ∧ Below w.heap.size w w'))
    (HS : Hid (∀ w, Calls Tryz.prog 130 #[tv p1 q1 g1, tv p2 q2 (!g2)] w fun e w' => e = .returned (.tuple #[rv n d, .int .i64 c]) ∧ Below w.heap.size w w')) :
    Calls Tryz.prog 103 #[rv an ad, rv bn bd] w fun e w' => e = .returned (.tuple #[rv n d, .int .i64 c]) ∧ Below w.heap.size w w' := by
  have n1 : ¬ w.heap.size = w.heap.size + 1 + 1 := by omega
  have n2 : ¬ w.heap.size + 1 + 1 = w.heap.size := by omega
  go_enter Tryz.func103, Tryz.ntmps103
  go_wp2_with fail
  refine (HR.out _).mono ?_
  rintro e w1 ⟨rfl, hb⟩
  have s0 := kc ⟨w.heap.size, 0, none⟩ (.int .i64 an) hb (by first | assumption | simp [go_sem, *])
  have s1 := kc ⟨w.heap.size, 1, none⟩ (.int .i64 ad) hb (by first | assumption | simp [go_sem, *])
  have s2 := kc ⟨w.heap.size + 1, 0, none⟩ (.int .i64 bn) hb (by first | assumption | simp [go_sem, *])
  have s3 := kc ⟨w.heap.size + 1, 1, none⟩ (.int .i64 bd) hb (by first | assumption | simp [go_sem, *])
  have s4 := kc ⟨w.heap.size + 1 + 1, 0, none⟩ (.int .i64 0) hb (by first | assumption | simp [go_sem, *])
  have s5 := kc ⟨w.heap.size + 1 + 1, 1, none⟩ (.int .i64 0) hb (by first | assumption | simp [go_sem, *])
  have sf0 := kf ⟨w.heap.size + 1 + 1, 0, none⟩ (.int .i64 0) hb (by first | assumption | simp [go_sem, *]) (by first | assumption | simp [go_sem, *])
  have sf1 := kf ⟨w.heap.size + 1 + 1, 1, none⟩ (.int .i64 0) hb (by first | assumption | simp [go_sem, *]) (by first | assumption | simp [go_sem, *])
  have hB := beyond (three w _ _ _) hb
  clear hb
  go_wp2_with fail
  refine (HR2.out _).mono ?_
  rintro e w2 ⟨rfl, hb2⟩
  have u0 := kc ⟨w.heap.size, 0, none⟩ (.int .i64 an) hb2 (by first | assumption | simp [go_sem, *])
  have u1 := kc ⟨w.heap.size, 1, none⟩ (.int .i64 ad) hb2 (by first | assumption | simp [go_sem, *])
  have u2 := kc ⟨w.heap.size + 1, 0, none⟩ (.int .i64 bn) hb2 (by first | assumption | simp [go_sem, *])
  have u3 := kc ⟨w.heap.size + 1, 1, none⟩ (.int .i64 bd) hb2 (by first | assumption | simp [go_sem, *])
  have u4 := kc ⟨w.heap.size + 1 + 1, 0, none⟩ (.int .i64 0) hb2 (by first | assumption | simp [go_sem, *])
  have u5 := kc ⟨w.heap.size + 1 + 1, 1, none⟩ (.int .i64 0) hb2 (by first | assumption | simp [go_sem, *])
  have uf0 := kf ⟨w.heap.size + 1 + 1, 0, none⟩ (.int .i64 0) hb2 (by first | assumption | simp [go_sem, *]) (by first | assumption | simp [go_sem, *])
  have uf1 := kf ⟨w.heap.size + 1 + 1, 1, none⟩ (.int .i64 0) hb2 (by first | assumption | simp [go_sem, *]) (by first | assumption | simp [go_sem, *])
  have hB2 := beyond hB hb2
  clear hb2 hB s0 s1 s2 s3 s4 s5 sf0 sf1
  go_upto_region 3 with (fail)
  go_region_held3 (fun w' => w'.cell? ⟨w.heap.size, 0, none⟩ = some (.int .i64 an) ∧ w'.cell? ⟨w.heap.size, 1, none⟩ = some (.int .i64 ad) ∧ w'.cell? ⟨w.heap.size + 1, 0, none⟩ = some (.int .i64 bn) ∧ w'.cell? ⟨w.heap.size + 1, 1, none⟩ = some (.int .i64 bd))
    (first | exact ⟨by assumption, by assumption, by assumption, by assumption⟩ | go_keep)
    (first
      | (go_at_call_of 125 an; refine (HTa.out _).mono ?_; rintro e' w' ⟨rfl, hb⟩; have v0 := kc ⟨w.heap.size, 0, none⟩ (.int .i64 an) hb (by first | assumption | simp [go_sem, *]); have v1 := kc ⟨w.heap.size, 1, none⟩ (.int .i64 ad) hb (by first | assumption | simp [go_sem, *]); have v2 := kc ⟨w.heap.size + 1, 0, none⟩ (.int .i64 bn) hb (by first | assumption | simp [go_sem, *]); have v3 := kc ⟨w.heap.size + 1, 1, none⟩ (.int .i64 bd) hb (by first | assumption | simp [go_sem, *]); have v4 := kc ⟨w.heap.size + 1 + 1, 0, none⟩ (.int .i64 0) hb (by first | assumption | simp [go_sem, *]); have v5 := kc ⟨w.heap.size + 1 + 1, 1, none⟩ (.int .i64 0) hb (by first | assumption | simp [go_sem, *]); have vf0 := kf ⟨w.heap.size + 1 + 1, 0, none⟩ (.int .i64 0) hb (by first | assumption | simp [go_sem, *]) (by first | assumption | simp [go_sem, *]); have vf1 := kf ⟨w.heap.size + 1 + 1, 1, none⟩ (.int .i64 0) hb (by first | assumption | simp [go_sem, *]) (by first | assumption | simp [go_sem, *]); have hX := beyond (w := w) (by first | assumption | exact Below.drew hB2 | exact below_drewN hB2 _) hb)
      | (go_at_call 125; refine (HTb.out _).mono ?_; rintro e' w' ⟨rfl, hb⟩; have v0 := kc ⟨w.heap.size, 0, none⟩ (.int .i64 an) hb (by first | assumption | simp [go_sem, *]); have v1 := kc ⟨w.heap.size, 1, none⟩ (.int .i64 ad) hb (by first | assumption | simp [go_sem, *]); have v2 := kc ⟨w.heap.size + 1, 0, none⟩ (.int .i64 bn) hb (by first | assumption | simp [go_sem, *]); have v3 := kc ⟨w.heap.size + 1, 1, none⟩ (.int .i64 bd) hb (by first | assumption | simp [go_sem, *]); have v4 := kc ⟨w.heap.size + 1 + 1, 0, none⟩ (.int .i64 0) hb (by first | assumption | simp [go_sem, *]); have v5 := kc ⟨w.heap.size + 1 + 1, 1, none⟩ (.int .i64 0) hb (by first | assumption | simp [go_sem, *]); have vf0 := kf ⟨w.heap.size + 1 + 1, 0, none⟩ (.int .i64 0) hb (by first | assumption | simp [go_sem, *]) (by first | assumption | simp [go_sem, *]); have vf1 := kf ⟨w.heap.size + 1 + 1, 1, none⟩ (.int .i64 0) hb (by first | assumption | simp [go_sem, *]) (by first | assumption | simp [go_sem, *]); have hX := beyond (w := w) (by first | assumption | exact Below.drew hB2 | exact below_drewN hB2 _) hb)
      | (go_at_call 128; refine (HO.out _).mono ?_; rintro e' w' ⟨rfl, hb⟩; have v0 := kc ⟨w.heap.size, 0, none⟩ (.int .i64 an) hb (by first | assumption | simp [go_sem, *]); have v1 := kc ⟨w.heap.size, 1, none⟩ (.int .i64 ad) hb (by first | assumption | simp [go_sem, *]); have v2 := kc ⟨w.heap.size + 1, 0, none⟩ (.int .i64 bn) hb (by first | assumption | simp [go_sem, *]); have v3 := kc ⟨w.heap.size + 1, 1, none⟩ (.int .i64 bd) hb (by first | assumption | simp [go_sem, *]); have v4 := kc ⟨w.heap.size + 1 + 1, 0, none⟩ (.int .i64 0) hb (by first | assumption | simp [go_sem, *]); have v5 := kc ⟨w.heap.size + 1 + 1, 1, none⟩ (.int .i64 0) hb (by first | assumption | simp [go_sem, *]); have vf0 := kf ⟨w.heap.size + 1 + 1, 0, none⟩ (.int .i64 0) hb (by first | assumption | simp [go_sem, *]) (by first | assumption | simp [go_sem, *]); have vf1 := kf ⟨w.heap.size + 1 + 1, 1, none⟩ (.int .i64 0) hb (by first | assumption | simp [go_sem, *]) (by first | assumption | simp [go_sem, *]); have hX := beyond (w := w) (by first | assumption | exact Below.drew hB2 | exact below_drewN hB2 _) hb)
      | (go_at_call 130; refine (HS.out _).mono ?_; rintro e' w' ⟨rfl, hb⟩; have v0 := kc ⟨w.heap.size, 0, none⟩ (.int .i64 an) hb (by first | assumption | simp [go_sem, *]); have v1 := kc ⟨w.heap.size, 1, none⟩ (.int .i64 ad) hb (by first | assumption | simp [go_sem, *]); have v2 := kc ⟨w.heap.size + 1, 0, none⟩ (.int .i64 bn) hb (by first | assumption | simp [go_sem, *]); have v3 := kc ⟨w.heap.size + 1, 1, none⟩ (.int .i64 bd) hb (by first | assumption | simp [go_sem, *]); have v4 := kc ⟨w.heap.size + 1 + 1, 0, none⟩ (.int .i64 0) hb (by first | assumption | simp [go_sem, *]); have v5 := kc ⟨w.heap.size + 1 + 1, 1, none⟩ (.int .i64 0) hb (by first | assumption | simp [go_sem, *]); have vf0 := kf ⟨w.heap.size + 1 + 1, 0, none⟩ (.int .i64 0) hb (by first | assumption | simp [go_sem, *]) (by first | assumption | simp [go_sem, *]); have vf1 := kf ⟨w.heap.size + 1 + 1, 1, none⟩ (.int .i64 0) hb (by first | assumption | simp [go_sem, *]) (by first | assumption | simp [go_sem, *]); have hX := beyond (w := w) (by first | assumption | exact Below.drew hB2 | exact below_drewN hB2 _) hb))
  all_goals
    go_wp2
    refine bodyPost_ret (v := .tuple #[rv n d, .int .i64 c]) (by simp [results, Tryz.results103, go_sem, *]) rfl ⟨rfl, ?_⟩
    exact set2 (by assumption) (by omega) _ _
end Go.Proofs.YteifpplemohdcaaGreatDoor

/-
  The contracts of rat.New, Add, Sub, Mul, Compare, Right for all fractions: the one in lowest terms, or the errors.
-/
namespace Go.Proofs.YteifpplemohdcaaGreatDoor
open Go.RowKit Go.Shelf
set_option linter.unusedVariables false
abbrev trip (t : Int × Int × Int) : Value := .tuple #[rv t.1 t.2.1, .int .i64 t.2.2]
def subT (an ad bn bd : Int) : Int × Int × Int := if rightR an ad && rightR bn bd then canR (an * bd - bn * ad) (ad * bd) else (0, 0, 7)
def newT (n d : Int) : Int × Int × Int := if d = 0 then (0, 0, 21) else canR (sgn n (decide (d < 0))) (sz d)
theorem terms_right (n d : Int) (hn : I64 n) (hd : I64 d) (r : rightR n d = true) (w : World) : Calls Tryz.prog 125 #[rv n d] w fun e w' => e = .returned (tv (sz n) d (decide (n < 0))) ∧ Below w.heap.size w w' := by
  obtain ⟨p1, q1⟩ := right_pos r
  have := termsOf_any n d w hn.1 hn.2 hd.1 hd.2
  rw [q1] at this
  exact this
theorem rsub_any (an ad bn bd : Int) (w : World) (ha : I64 an) (hb : I64 ad) (hc : I64 bn) (hd : I64 bd) :
    Calls Tryz.prog 103 #[rv an ad, rv bn bd] w fun e w' => e = .returned (trip (subT an ad bn bd)) ∧ Below w.heap.size w w' := by
  have ka := askR an ad ha hb
  have kb := askR bn bd hc hd
  cases ra : rightR an ad
  · rw [ra] at ka
    have e : subT an ad bn bd = (0, 0, 7) := by simp [subT, ra]
    rw [e]
    exact rsub_not1 an ad bn bd w ka
  · rw [ra] at ka
    cases rb : rightR bn bd
    · rw [rb] at kb
      have e : subT an ad bn bd = (0, 0, 7) := by simp [subT, rb]
      rw [e]
      exact rsub_not2 an ad bn bd w ka kb
    · rw [rb] at kb
      obtain ⟨d0, ca⟩ := right_iff.1 ra
      obtain ⟨e0, cb⟩ := right_iff.1 rb
      obtain ⟨l1, l2, l3, l4⟩ := sum_low (sz an) ad (sz bn) bd (decide (an < 0)) (!decide (bn < 0)) (sz_nn _) (sz_nn _) d0 e0 ca cb
      have en : sgn (sz bn) (!decide (bn < 0)) = -bn := by
        have := sgn_sz bn
        revert this
        unfold sgn
        by_cases q : bn < 0 <;> simp [q] <;> omega
      rw [sgn_sz, en, Int.neg_mul, ← Int.sub_eq_add_neg] at l4
      have e : subT an ad bn bd = canR (an * bd - bn * ad) (ad * bd) := by simp [subT, ra, rb]
      rw [e, can_of (Int.mul_pos d0 e0) l2 l3 l1 l4]
      have s1 := sz_bd an ha.1 ha.2
      have s2 := sz_bd bn hc.1 hc.2
      exact rsub_yes an ad bn bd _ _ _ _ _ _ _ _ _ w ka kb (terms_right an ad ha hb ra) (terms_right bn bd hc hd rb) (fun w => opposite_any _ _ _ w) (fun w => rsum_any _ _ _ _ _ _ w ⟨s1.1, s1.2⟩ ⟨d0, by have := hb.2; omega⟩ ⟨s2.1, s2.2⟩ ⟨e0, by have := hd.2; omega⟩)
theorem rnew_any (n d : Int) (w : World) (hn : I64 n) (hd : I64 d) :
    Calls Tryz.prog 43 #[.int .i64 n, .int .i64 d] w fun e w' => e = .returned (trip (newT n d)) ∧ Below w.heap.size w w' := by
  by_cases z : d = 0
  · subst z
    exact new_zero n w
  · have s1 := sz_bd n hn.1 hn.2
    have s2 := sz_bd d hd.1 hd.2
    have p : 0 < sz d := by unfold sz; split <;> omega
    have G0 := gcdI_pos (sz n) (sz d) s1.1 p
    have G1 := gcdI_le_right (sz n) (sz d) p
    obtain ⟨a1, a2⟩ := quo_bd (sz n) (gcdI (sz n) (sz d)) s1.1 G0
    obtain ⟨b1, b2⟩ := quo_bd (sz d) (gcdI (sz n) (sz d)) s2.1 G0
    have e : newT n d = hR (sz n / gcdI (sz n) (sz d)) (sz d / gcdI (sz n) (sz d)) (decide (n < 0) != decide (d < 0)) := by
      unfold newT
      rw [if_neg z]
      unfold canR
      have e1 : sz (sgn n (decide (d < 0))) = sz n := by
        unfold sgn sz
        by_cases c : d < 0 <;> simp [c] <;> (repeat' split) <;> omega
      rw [e1]
      by_cases y : n = 0
      · subst y
        have : sz 0 / gcdI (sz 0) (sz d) = 0 := by simp [sz]
        rw [this]
        exact hR_zero _ _ _
      · have : decide (sgn n (decide (d < 0)) < 0) = (decide (n < 0) != decide (d < 0)) := by
          unfold sgn
          by_cases c : d < 0 <;> by_cases k : n < 0 <;> simp [c, k] <;> omega
        rw [this]
    rw [e]
    have hh : ∀ w, Calls Tryz.prog 77 #[.agg #[.int .u64 0, .int .u64 (sz n / gcdI (sz n) (sz d)), .bool (decide (n < 0) != decide (d < 0))], .agg #[.int .u64 0, .int .u64 (sz d / gcdI (sz n) (sz d))]] w fun e w' => e = .returned (trip (hR (sz n / gcdI (sz n) (sz d)) (sz d / gcdI (sz n) (sz d)) (decide (n < 0) != decide (d < 0)))) ∧ Below w.heap.size w w' := fun w => by
      have := hold_any (sz n / gcdI (sz n) (sz d)) (sz d / gcdI (sz n) (sz d)) (decide (n < 0) != decide (d < 0)) w ⟨a1, by omega⟩ ⟨b1, by omega⟩
      unfold sv wv at this
      rw [hi_small a1 (by omega), lo_small a1 (by omega), hi_small b1 (by omega), lo_small b1 (by omega)] at this
      exact this
    exact new_raw n d (sz n) (sz d) (gcdI (sz n) (sz d)) _ _ w _ _ _ rfl rfl (by simpa using z) G0 (by omega) s1.1 (by omega) s2.1 (by omega)
      (fun w => size_any n w hn.1 hn.2) (fun w => size_any d w hd.1 hd.2) (fun w => gcd_draws _ _ w ⟨s1.1, by omega⟩ ⟨s2.1, by omega⟩) (fun w => narrow_any _ w) (fun w => narrow_any _ w) hh
end Go.Proofs.YteifpplemohdcaaGreatDoor

/-
  The contracts of rat.Div, divide, Floor, Ceil and Frac.
-/
namespace Go.Proofs.YteifpplemohdcaaGreatDoor
open Go.RowKit Go.Shelf
set_option linter.unusedVariables false
/-! ### divide, Floor, Ceil, Frac -/
theorem tdiv_neg (n d : Int) (hd : 0 < d) (h : n.tmod d < 0) : n / d = n.tdiv d - 1 ∧ n % d = n.tmod d + d := by
  have e := Int.mul_tdiv_add_tmod n d
  have b := Int.lt_tmod_of_pos n hd
  refine (Int.ediv_emod_unique hd).2 ⟨?_, by omega, by omega⟩
  rw [Int.mul_sub]
  omega
theorem tdiv_pos (n d : Int) (hd : 0 < d) (h : ¬ n.tmod d < 0) : n / d = n.tdiv d ∧ n % d = n.tmod d := by
  have e := Int.mul_tdiv_add_tmod n d
  have b := Int.tmod_lt_of_pos n hd
  exact (Int.ediv_emod_unique hd).2 ⟨by omega, by omega, by omega⟩
theorem quo_i64 (n d : Int) (hn : I64 n) (hd : 0 < d) : I64 (n / d) := by
  obtain ⟨h0, h1⟩ := hn
  have e := Int.mul_ediv_add_emod n d
  have r0 := Int.emod_nonneg n (show d ≠ 0 by omega)
  have r1 := Int.emod_lt_of_pos n hd
  constructor
  · by_cases c : 0 ≤ n / d
    · omega
    · have : n ≤ n / d := by
        have h := Int.mul_le_mul_of_nonpos_right (show 1 ≤ d by omega) (show n / d ≤ 0 by omega)
        rcases Int.lt_or_le n (n / d + 1) with h | h
        · omega
        · have k : d * (n / d + 1) ≤ 1 * (n / d + 1) := Int.mul_le_mul_of_nonpos_right (by omega) (by omega)
          rw [Int.mul_add] at k
          omega
      omega
  · by_cases c : n / d ≤ 0
    · omega
    · have h : 1 * (n / d) ≤ d * (n / d) := Int.mul_le_mul_of_nonneg_right (by omega) (by omega)
      omega
set_option maxRecDepth 100000 in
theorem divide_any (n d : Int) (w : World) (hn : I64 n) (d0 : 0 < d) (d1 : d ≤ 9223372036854775807) :
    Calls Tryz.prog 124 #[rv n d] w fun e w' => e = .returned (.tuple #[.int .i64 (n / d), .int .i64 (n % d)]) ∧ Below w.heap.size w w' := by
  have z : ¬ d = 0 := by omega
  have q := quo_i64 n d hn d0
  have r0 := Int.emod_nonneg n z
  have r1 := Int.emod_lt_of_pos n d0
  by_cases c : n.tmod d < 0
  · obtain ⟨e1, e2⟩ := tdiv_neg n d d0 c
    have b := Int.lt_tmod_of_pos n d0
    have nn : n < 0 := by
      apply Int.lt_of_not_ge
      intro h
      have := Int.tmod_nonneg d h
      omega
    have qn : n / d < 0 := Int.ediv_neg_of_neg_of_pos nn d0
    have w1 : IntKind.i64.wrap (n.tdiv d) = n.tdiv d := by rw [IntKind.wrap_i64]; have := q.1; have := q.2; omega
    have w2 : IntKind.i64.wrap (n.tmod d) = n.tmod d := by rw [IntKind.wrap_i64]; omega
    have w3 : IntKind.i64.wrap (n.tdiv d - 1) = n / d := by rw [IntKind.wrap_i64]; have := q.1; have := q.2; omega
    have w4 : IntKind.i64.wrap (n.tmod d + d) = n % d := by rw [IntKind.wrap_i64]; omega
    clear q r0 r1 b e1 e2 hn d0 d1 nn qn
    generalize n / d = X at *
    generalize n % d = Y at *
    go_enter Tryz.func124, Tryz.ntmps124
    go_wp2
    have c0 : (w.alloc (.cells #[.int .i64 n, .int .i64 d] 33)).cell? ⟨w.heap.size, 0, none⟩ = some (.int .i64 n) := by simp [go_sem]
    have c1 : (w.alloc (.cells #[.int .i64 n, .int .i64 d] 33)).cell? ⟨w.heap.size, 1, none⟩ = some (.int .i64 d) := by simp [go_sem]
    go_region_held3 (fun w' => w'.cell? ⟨w.heap.size, 0, none⟩ = some (.int .i64 n) ∧ w'.cell? ⟨w.heap.size, 1, none⟩ = some (.int .i64 d))
      (first | exact ⟨by assumption, by assumption⟩ | go_keep) (fail)
    all_goals go_wp2
    all_goals (first | go_region_held3 (fun w' => w'.cell? ⟨w.heap.size, 0, none⟩ = some (.int .i64 n) ∧ w'.cell? ⟨w.heap.size, 1, none⟩ = some (.int .i64 d)) (first | exact ⟨by assumption, by assumption⟩ | go_keep) (fail) | skip)
    all_goals (try go_wp2)
    all_goals
      refine bodyPost_ret (v := .tuple #[.int .i64 X, .int .i64 Y]) (by simp [results, Tryz.results124, go_sem, *]) rfl ⟨rfl, ?_⟩
      first | exact Below.drew (Below.drew (single _ _)) | exact Below.drew (single _ _)
  · obtain ⟨e1, e2⟩ := tdiv_pos n d d0 c
    have w1 : IntKind.i64.wrap (n.tdiv d) = n.tdiv d := by rw [IntKind.wrap_i64]; have := q.1; have := q.2; omega
    have w2 : IntKind.i64.wrap (n.tmod d) = n.tmod d := by rw [IntKind.wrap_i64]; omega
    rw [e1, e2]
    clear q r0 r1 e1 e2 hn d0 d1
    go_enter Tryz.func124, Tryz.ntmps124
    go_wp2
    have c0 : (w.alloc (.cells #[.int .i64 n, .int .i64 d] 33)).cell? ⟨w.heap.size, 0, none⟩ = some (.int .i64 n) := by simp [go_sem]
    have c1 : (w.alloc (.cells #[.int .i64 n, .int .i64 d] 33)).cell? ⟨w.heap.size, 1, none⟩ = some (.int .i64 d) := by simp [go_sem]
    go_region_held3 (fun w' => w'.cell? ⟨w.heap.size, 0, none⟩ = some (.int .i64 n) ∧ w'.cell? ⟨w.heap.size, 1, none⟩ = some (.int .i64 d))
      (first | exact ⟨by assumption, by assumption⟩ | go_keep) (fail)
    all_goals go_wp2
    all_goals (first | go_region_held3 (fun w' => w'.cell? ⟨w.heap.size, 0, none⟩ = some (.int .i64 n) ∧ w'.cell? ⟨w.heap.size, 1, none⟩ = some (.int .i64 d)) (first | exact ⟨by assumption, by assumption⟩ | go_keep) (fail) | skip)
    all_goals (try go_wp2)
    all_goals
      refine bodyPost_ret (v := .tuple #[.int .i64 (n.tdiv d), .int .i64 (n.tmod d)]) (by simp [results, Tryz.results124, go_sem, *]) rfl ⟨rfl, ?_⟩
      first | exact Below.drew (Below.drew (single _ _)) | exact Below.drew (single _ _)
abbrev AskD (n d x y : Int) : Prop := ∀ w, Calls Tryz.prog 124 #[rv n d] w fun e w' => e = .returned (.tuple #[.int .i64 x, .int .i64 y]) ∧ Below w.heap.size w w'
theorem floor_not (n d : Int) (w : World) (HR : Hid (AskR n d false)) : Calls Tryz.prog 100 #[rv n d] w fun e w' => e = .returned (.int .i64 0) ∧ Below w.heap.size w w' := by
  go_enter Tryz.func100, Tryz.ntmps100
  go_wp2_with fail
  refine (HR.out _).mono ?_
  rintro e w1 ⟨rfl, hb⟩
  have hB := beyond (single w _) hb
  go_wp2_with fail
  go_ret
  exact ⟨rfl, hB⟩
theorem floor_yes (n d x y : Int) (w : World) (HR : Hid (AskR n d true)) (HD : Hid (AskD n d x y)) : Calls Tryz.prog 100 #[rv n d] w fun e w' => e = .returned (.int .i64 x) ∧ Below w.heap.size w w' := by
  go_enter Tryz.func100, Tryz.ntmps100
  go_wp2_with fail
  refine (HR.out _).mono ?_
  rintro e w1 ⟨rfl, hb⟩
  have s0 := kc ⟨w.heap.size, 0, none⟩ (.int .i64 n) hb (by first | assumption | simp [go_sem, *])
  have s1 := kc ⟨w.heap.size, 1, none⟩ (.int .i64 d) hb (by first | assumption | simp [go_sem, *])
  have hB := beyond (single w _) hb
  clear hb
  go_wp2_with fail
  refine (HD.out _).mono ?_
  rintro e w2 ⟨rfl, hb⟩
  have hB2 := beyond hB hb
  go_wp2_with fail
  go_ret
  exact ⟨rfl, hB2⟩
theorem frac_yes (n d x y : Int) (w : World) (HR : Hid (AskR n d true)) (HD : Hid (AskD n d x y)) : Calls Tryz.prog 102 #[rv n d] w fun e w' => e = .returned (rv y d) ∧ Below w.heap.size w w' := by
  go_enter Tryz.func102, Tryz.ntmps102
  go_wp2_with fail
  refine (HR.out _).mono ?_
  rintro e w1 ⟨rfl, hb⟩
  have s0 := kc ⟨w.heap.size, 0, none⟩ (.int .i64 n) hb (by first | assumption | simp [go_sem, *])
  have s1 := kc ⟨w.heap.size, 1, none⟩ (.int .i64 d) hb (by first | assumption | simp [go_sem, *])
  have s2 := kc ⟨w.heap.size + 1, 0, none⟩ (.int .i64 0) hb (by first | assumption | simp [go_sem, *])
  have s3 := kc ⟨w.heap.size + 1, 1, none⟩ (.int .i64 0) hb (by first | assumption | simp [go_sem, *])
  have s4 := kf ⟨w.heap.size + 1, 0, none⟩ (.int .i64 0) hb (by first | assumption | simp [go_sem, *]) (by first | assumption | simp [go_sem, *])
  have s5 := kf ⟨w.heap.size + 1, 1, none⟩ (.int .i64 0) hb (by first | assumption | simp [go_sem, *]) (by first | assumption | simp [go_sem, *])
  have hB := beyond (two w _ _) hb
  clear hb
  go_wp2_with fail
  refine (HD.out _).mono ?_
  rintro e w2 ⟨rfl, hb⟩
  have u0 := kc _ _ hb s0
  have u1 := kc _ _ hb s1
  have u2 := kc _ _ hb s2
  have u3 := kc _ _ hb s3
  have u4 := kf _ _ hb s2 s4
  have u5 := kf _ _ hb s3 s5
  have hB2 := beyond hB hb
  go_wp2_with fail
  refine bodyPost_ret (v := rv y d) (by simp [results, Tryz.results102, go_sem, *]) rfl ⟨rfl, ?_⟩
  first | exact set2 hB2 (by omega) _ _ | exact hB2
theorem askD (n d : Int) (hn : I64 n) (d0 : 0 < d) (d1 : d ≤ 9223372036854775807) : AskD n d (n / d) (n % d) := fun w => divide_any n d w hn d0 d1
def floorT (n d : Int) : Int := if rightR n d then n / d else 0
theorem floor_any (n d : Int) (w : World) (hn : I64 n) (hd : I64 d) : Calls Tryz.prog 100 #[rv n d] w fun e w' => e = .returned (.int .i64 (floorT n d)) ∧ Below w.heap.size w w' := by
  have k := askR n d hn hd
  cases r : rightR n d
  · rw [r] at k
    have e : floorT n d = 0 := by simp [floorT, r]
    rw [e]
    exact floor_not n d w k
  · rw [r] at k
    have e : floorT n d = n / d := by simp [floorT, r]
    rw [e]
    exact floor_yes n d _ _ w k (askD n d hn (right_pos r).1 hd.2)
end Go.Proofs.YteifpplemohdcaaGreatDoor

/-
  rat.Print of a fraction that is not whole, rat.Between at the fractions that live asks, and live.
-/
namespace Go.Proofs.YteifpplemohdcaaGreatDoor
open Go.RowKit Go.Shelf
set_option linter.unusedVariables false
theorem i64_wf {x : Int} (h : (Lit.int .i64 x).wf = true) : I64 x := bounds_i64 h
theorem str_cat (a b : List UInt8) : ((⟨a.toArray⟩ : ByteArray) ++ (⟨b.toArray⟩ : ByteArray)) = ⟨(a ++ b).toArray⟩ := by
  apply ByteArray.ext
  simp [ByteArray.data_append]
theorem ret_str {a b : ByteArray} (h : a = b) : Ending.returned (.string a) = .returned (.string b) := by rw [h]
abbrev Pow (w : World) : Prop := Lib.TabIs Tryz.prog w "internal/strconv.uint64pow10" .u64 Lib.pow10Tab
theorem pow_later {w w' : World} (h : Pow w) (hb : Below w.heap.size w w') : Pow w' := Lib.tabBelow_of_tabIs h w' hb
theorem format_any (n : Int) (w : World) (hn : I64 n) (ht : Pow w) : Calls Tryz.prog 56 #[.int .i64 n, .int .i64 10] w fun e w' => e = .returned (.string ⟨(Lib.itoa n).toArray⟩) ∧ Below w.heap.size w w' := by
  refine (Go.Proofs.Tryz.strconv_FormatInt_10 n hn.1 hn.2 w ht).mono ?_
  rintro e w' ⟨rfl, k, os, rfl⟩
  exact ⟨rfl, Lib.below_grow _ _ (Nat.le_refl _) _ _⟩
end Go.Proofs.YteifpplemohdcaaGreatDoor
