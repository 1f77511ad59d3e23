/-
  The walk of the law BoundPlus: for every two bounds and three numbers it returns true, and nothing that was there has turned; the condition: the library's table of powers of ten lies as its text lays it.
-/
import Derived.Test.YtacgkbmhklfcaabBs
namespace Go.Proofs.Ytacgkbmhklfcaab
open Go.RowKit
set_option linter.unusedVariables false

theorem wrap_small (x : Int) (h0 : -9223372036854775808 ≤ x) (h1 : x ≤ 9223372036854775807) : wrap64 x = x := by unfold wrap64; omega
theorem rem_small (x : Int) : -1152921504606846976 < x.tmod 1152921504606846976 ∧ x.tmod 1152921504606846976 < 1152921504606846976 :=
  ⟨Int.lt_tmod_of_pos x (by decide), Int.tmod_lt_of_pos x (by decide)⟩

/-- The sum of two right bounds: its number and whether it may be reached. -/
theorem sum_two_fin (a b : Int) (fa : finB a = true) (fb : finB b = true) (he : sumE [a, b] = 0) :
    finB (sumB [a, b]) = true ∧ valV (sumB [a, b]) = valV a + valV b ∧ valR (sumB [a, b]) = (valR a && valR b) := by
  have la := (fin_iff a).1 fa
  have lb := (fin_iff b).1 fb
  have va := valV_fin a fa
  have vb := valV_fin b fb
  have bad : sBad [a, b] = false := by simp [sBad, right_of_fin fa, right_of_fin fb]
  have inf : sI [a, b] = false := by simp [sI, fa, fb]
  have tot : sT [a, b] = valV a + valV b := by
    simp only [sT, List.foldl_cons, List.foldl_nil, Int.zero_add]
    rw [wrap_small (valV a) (by omega) (by omega), wrap_small _ (by omega) (by omega)]
  have rea : sR [a, b] = (valR a && valR b) := by simp [sR]
  have e1 : sumB [a, b] = ofB (valV a + valV b) (valR a && valR b) := by simp [sumB, bad, inf, tot, rea]
  have e2 : sumE [a, b] = ofE (valV a + valV b) := by simp [sumE, bad, inf, tot]
  rw [e2] at he
  have hin : -268435456 ≤ valV a + valV b ∧ valV a + valV b ≤ 268435456 := by
    unfold ofE at he
    split at he
    · cases he
    · omega
  have e3 : sumB [a, b] = 2 * (valV a + valV b) + (if (valR a && valR b) = true then 1 else 0) := by rw [e1]; exact ofB_in _ _ hin.1 hin.2
  have f : finB (sumB [a, b]) = true := by
    rw [fin_iff, e3]
    split <;> omega
  refine ⟨f, ?_, ?_⟩
  · rw [valV_fin _ f, e3]
    split <;> omega
  · rw [valR_fin _ f, e3]
    cases valR a && valR b
    · simp
    · simp

theorem sum_two_right (a b : Int) (he : sumE [a, b] = 0) : rightB a = true ∧ rightB b = true := by
  cases h : sBad [a, b]
  · simpa [sBad] using h
  · simp [sumE, h] at he
theorem sum_two_inf (a b : Int) (he : sumE [a, b] = 0) (h : a = 2147483647 ∨ b = 2147483647) : sumB [a, b] = 2147483647 := by
  obtain ⟨ra, rb⟩ := sum_two_right a b he
  have bad : sBad [a, b] = false := by simp [sBad, ra, rb]
  have z : finB 2147483647 = false := by decide
  have inf : sI [a, b] = true := by
    rcases h with rfl | rfl
    · simp [sI, z]
    · simp [sI, z]
  simp [sumB, bad, inf]

/-- P1.7: two differences that keep both have a sum that keeps the sum's bound. -/
theorem plus_keeps (a b x y d : Int) (he : sumE [a, b] = 0) (hd : 1 ≤ d) (ha : holdsB a x d = true) (hb : holdsB b y d = true) : holdsB (sumB [a, b]) (x + y) d = true := by
  obtain ⟨ra, rb⟩ := sum_two_right a b he
  rcases fin_or_inf ra with h | fa
  · rw [sum_two_inf a b he (.inl h)]; exact holdsB_inf _ _
  rcases fin_or_inf rb with h | fb
  · rw [sum_two_inf a b he (.inr h)]; exact holdsB_inf _ _
  obtain ⟨f, v, r⟩ := sum_two_fin a b fa fb he
  rw [holdsB_fin _ _ _ fa hd] at ha
  rw [holdsB_fin _ _ _ fb hd] at hb
  rw [holdsB_fin _ _ _ f hd, v, r, Int.add_mul]
  cases p : valR a <;> cases q : valR b <;> simp [p] at ha <;> simp [q] at hb <;> simp <;> omega

end Go.Proofs.Ytacgkbmhklfcaab
