/-
  The walk of the statement TopNumbers, whole.
-/
import Derived.Test.YtacgkbmhklfcaabTn2
import Derived.Test.YtacgkbmhklfcaabTn3
namespace Go.Proofs.Ytacgkbmhklfcaab
open Go.RowKit Go.Shelf
set_option linter.unusedVariables false
theorem sum_small (a b : Int) (fa : finB a = true) (fb : finB b = true) (h0 : -268435456 ≤ valV a + valV b) (h1 : valV a + valV b ≤ 268435456) : sumE [a, b] = 0 := by
  have la := (fin_iff a).1 fa
  have lb := (fin_iff b).1 fb
  have va := valV_fin a fa
  have vb := valV_fin b fb
  have bad : sBad [a, b] = false := by simp [sBad, right_of_fin fa, right_of_fin fb]
  have inf : sI [a, b] = false := by simp [sI, fa, fb]
  have st : sT [a, b] = valV a + valV b := by
    simp only [sT, List.foldl]
    rw [wrap_small (0 + valV a) (by omega) (by omega), wrap_small _ (by omega) (by omega)]
    omega
  simp only [sumE, bad, inf, Bool.false_eq_true, if_false, st]
  exact ofE_in _ h0 h1
theorem right_one (n : Int) (hn : I64 n) : rightR n 1 = true := by
  have := sz_bd n hn.1 hn.2
  simp [rightR, gcdI, sz]
theorem cmp_le (n d v : Int) : decide (cmpV n d v 1 ≤ 0) = decide (n ≤ v * d) := by
  unfold cmpV
  rw [Int.mul_one]
  apply decide_eq_decide.2
  repeat' split
  all_goals omega
theorem cmp_lt (n d v : Int) : decide (cmpV n d v 1 < 0) = decide (n < v * d) := by
  unfold cmpV
  rw [Int.mul_one]
  apply decide_eq_decide.2
  repeat' split
  all_goals omega
theorem i64_wf {x : Int} (h : (Lit.int .i64 x).wf = true) : I64 x := by
  have := bounds_i64 h
  exact this
theorem held_bd {N D : Int} {g : Bool} (h : canHold N D g = true) (n0 : 0 ≤ N) : heldD N D g ≤ 9223372036854775807 ∧ -9223372036854775808 ≤ heldN N D g ∧ heldN N D g ≤ 9223372036854775807 := by
  have h' := h
  simp only [canHold, Bool.and_eq_true, decide_eq_true_eq] at h'
  simp only [heldD, heldN, h, if_true]
  obtain ⟨a, b⟩ := h'
  cases g
  · simp [mostOf] at a ⊢
    omega
  · simp [mostOf] at a ⊢
    omega
namespace topNumbers
theorem walk (v : Int) (hv : (Lit.int .i64 v).wf = true) (u : Int) (hu : (Lit.int .i64 u).wf = true) (an : Int) (han : (Lit.int .i64 an).wf = true) (ad : Int) (had : (Lit.int .i64 ad).wf = true) (bn : Int) (hbn : (Lit.int .i64 bn).wf = true) (bd : Int) (hbd : (Lit.int .i64 bd).wf = true) (w : World) :
    Calls Try.prog 3 #[.agg #[.int .i64 v, .int .i64 u], rv an ad, rv bn bd] w fun e w' => e = .returned (.bool true) ∧ Below w.heap.size w w' := by
  have v64 := i64_wf hv
  have u64 := i64_wf hu
  have a64 := i64_wf han
  have d64 := i64_wf had
  have b64 := i64_wf hbn
  have e64 := i64_wf hbd
  have m0 := Int.emod_nonneg v (show (1000 : Int) ≠ 0 by decide)
  have m1 := Int.emod_lt_of_pos v (show (0 : Int) < 1000 by decide)
  have k0 := Int.emod_nonneg u (show (1000 : Int) ≠ 0 by decide)
  have k1 := Int.emod_lt_of_pos u (show (0 : Int) < 1000 by decide)
  have W1 := fun w => which_any v w v64
  have W2 := fun w => which_any u w u64
  generalize v % 1000 = m at *
  generalize u % 1000 = k at *
  have X1 : ∀ w, Calls Try.prog 4 #[.int .i64 (m - 500)] w fun e w' => e = .returned (.tuple #[.int .i32 (2 * (m - 500) + 1), .int .i64 0]) ∧ w' = w := fun w => by
    have := atMost_any (m - 500) w
    rw [ofB_in _ _ (by omega) (by omega), ofE_in _ (by omega) (by omega)] at this
    exact this
  have Y1 : ∀ w, Calls Try.prog 6 #[.int .i64 (k - 500)] w fun e w' => e = .returned (.tuple #[.int .i32 (2 * (k - 500)), .int .i64 0]) ∧ w' = w := fun w => by
    have := lessThan_any (k - 500) w
    rw [ofB_in _ _ (by omega) (by omega), ofE_in _ (by omega) (by omega)] at this
    simpa using this
  cases hr : (rightR an ad && rightR bn bd)
  · refine top_wrong v u an ad bn bd m k _ _ w m0 m1 k0 k1 W1 W2 X1 Y1 rfl (rightR an ad) (rightR bn bd) hr (askR an ad a64 d64) (askR bn bd b64 e64) (fun w => compare_wrong an ad bn bd w a64 d64 b64 e64 ?_)
    cases h1 : rightR an ad
    · exact .inl rfl
    · right; simpa [h1] using hr
  · obtain ⟨ra, rb⟩ : rightR an ad = true ∧ rightR bn bd = true := by simpa using hr
    obtain ⟨p1, -⟩ := right_pos ra
    obtain ⟨p2, -⟩ := right_pos rb
    have fx : finB (2 * (m - 500) + 1) = true := (fin_iff _).2 (by omega)
    have fy : finB (2 * (k - 500)) = true := (fin_iff _).2 (by omega)
    have vx : valV (2 * (m - 500) + 1) = m - 500 := by rw [valV_fin _ fx]; omega
    have vy : valV (2 * (k - 500)) = k - 500 := by rw [valV_fin _ fy]; omega
    have rx : valR (2 * (m - 500) + 1) = true := by rw [valR_fin _ fx]; simp
    have ry : valR (2 * (k - 500)) = false := by rw [valR_fin _ fy]; simp
    have hE : sumE [2 * (m - 500) + 1, 2 * (k - 500)] = 0 := sum_small _ _ fx fy (by rw [vx, vy]; omega) (by rw [vx, vy]; omega)
    have hP : decide (cmpV an ad (m - 500) 1 ≤ 0) = holdsB (2 * (m - 500) + 1) an ad := by rw [cmp_le, holdsB_fin _ _ _ fx (by omega), rx, vx]; simp
    have hQ : decide (cmpV bn bd (k - 500) 1 < 0) = holdsB (2 * (k - 500)) bn bd := by rw [cmp_lt, holdsB_fin _ _ _ fy (by omega), ry, vy]; simp
    have AA := fun w => radd_right an ad bn bd w a64 d64 b64 e64 ra rb
    have BA : ∀ w, Calls Try.prog 12 #[.int .i32 (2 * (m - 500) + 1), .int .i32 (2 * (k - 500))] w fun e w' => e = .returned (.tuple #[.int .i32 (sumB [2 * (m - 500) + 1, 2 * (k - 500)]), .int .i64 0]) ∧ Below w.heap.size w w' := fun w => by
      have := add_any (2 * (m - 500) + 1) (2 * (k - 500)) w
      rw [hE] at this
      exact this
    have q1 : I64 (m - 500) := ⟨by omega, by omega⟩
    have q2 : I64 (k - 500) := ⟨by omega, by omega⟩
    have q3 : I64 (1 : Int) := ⟨by decide, by decide⟩
    refine top_raw v u an ad bn bd m k _ _ w m0 m1 k0 k1 W1 W2 X1 Y1 rfl (ra ▸ askR an ad a64 d64) (rb ▸ askR bn bd b64 e64) _ _ _ _ hP hQ (fun w => ratOf_any _ w) (fun w => ratOf_any _ w)
      (fun w => compare_right an ad (m - 500) 1 w a64 d64 q1 q3 ra (right_one _ q1)) (fun w => compare_right bn bd (k - 500) 1 w b64 e64 q2 q3 rb (right_one _ q2))
      (fun w => holds_any _ _ _ w d64.2 a64.1 a64.2) (fun w => holds_any _ _ _ w e64.2 b64.1 b64.2) _ _ _ _ AA BA ?_
    intro hp hq hg w
    have hc : canHold (sNum (sz an) ad (decide (an < 0)) (sz bn) bd (decide (bn < 0))) (sDen (sz an) ad (decide (an < 0)) (sz bn) bd (decide (bn < 0))) (sS (sz an) ad (decide (an < 0)) (sz bn) bd (decide (bn < 0))) = true := by
      cases c : canHold (sNum (sz an) ad (decide (an < 0)) (sz bn) bd (decide (bn < 0))) (sDen (sz an) ad (decide (an < 0)) (sz bn) bd (decide (bn < 0))) (sS (sz an) ad (decide (an < 0)) (sz bn) bd (decide (bn < 0)))
      · simp [addE, heldE, c] at hg
      · rfl
    have n0 : 0 ≤ sNum (sz an) ad (decide (an < 0)) (sz bn) bd (decide (bn < 0)) := by
      obtain ⟨H0, -⟩ := sum_law (sz an) ad (sz bn) bd (decide (an < 0)) (decide (bn < 0)) p1 p2
      have G0 : 0 < sG ad bd := gcdI_pos _ _ (by omega) p2
      refine Int.ediv_nonneg (addM_bd _ _ _ _ ?_ ?_).1 (Int.le_of_lt H0)
      · exact Int.mul_nonneg (sz_bd an a64.1 a64.2).1 (Int.ediv_nonneg (by omega) (by omega))
      · exact Int.mul_nonneg (sz_bd bn b64.1 b64.2).1 (Int.ediv_nonneg (by omega) (by omega))
    obtain ⟨b1, b2, b3⟩ := held_bd hc n0
    have h := holds_any (sumB [2 * (m - 500) + 1, 2 * (k - 500)]) (addN an ad bn bd) (addD an ad bn bd) w b1 b2 b3
    rw [sum_holds _ _ _ an ad bn bd fx fy hE rfl p1 p2 hp hq hc] at h
    exact h
end topNumbers
end Go.Proofs.Ytacgkbmhklfcaab
