/-
  The walk of the law BoundStricter: for every two bounds and fraction it returns true, and nothing that was there has turned; the condition: the library's table of powers of ten lies as its text lays it.
-/
import Derived.Test.YtacgkbmhklfcaabBh
import Derived.OpenShut
namespace Go.Proofs.Ytacgkbmhklfcaab
open Go.RowKit
set_option linter.unusedVariables false

theorem below_after {w w1 w2 : World} (h1 : Below w.heap.size w w1) (h2 : Below w1.heap.size w1 w2) : Below w.heap.size w w2 := h1.trans (h2.mono h1.size)
theorem from_below {P : Program} {f : Nat} {args : Array Value} {w w0 : World} {v : Ending} (h : Calls P f args w fun e w' => e = v ∧ Below w.heap.size w w') (hb : Below w0.heap.size w0 w) :
    Calls P f args w fun e w' => e = v ∧ Below w0.heap.size w0 w' :=
  h.mono fun e w' ⟨he, h2⟩ => ⟨he, below_after hb h2⟩

theorem holdsB_fin (b n d : Int) (f : finB b = true) (hd : 1 ≤ d) : holdsB b n d = if valR b then decide (n ≤ valV b * d) else decide (n < valV b * d) := by
  have h : b ≠ 2147483647 := by
    have := (fin_iff b).1 f
    omega
  simp [holdsB, h, f, hd]
theorem holdsB_inf (n d : Int) : holdsB 2147483647 n d = true := by simp [holdsB]
theorem valV_fin (b : Int) (f : finB b = true) : valV b = b / 2 := by simp [valV, f]
theorem valR_fin (b : Int) (f : finB b = true) : valR b = decide (b % 2 = 1) := by simp [valR, f]

theorem stricter (a b n d : Int) (ra : rightB a = true) (rb : rightB b = true) (hd : 1 ≤ d) (hab : a ≤ b) (h : holdsB a n d = true) : holdsB b n d = true := by
  rcases fin_or_inf rb with rfl | fb
  · exact holdsB_inf n d
  · have lb := (fin_iff b).1 fb
    rcases fin_or_inf ra with rfl | fa
    · omega
    · rw [holdsB_fin _ _ _ fa hd, valV_fin a fa, valR_fin a fa] at h
      rw [holdsB_fin _ _ _ fb hd, valV_fin b fb, valR_fin b fb]
      by_cases e : a / 2 = b / 2
      · rw [e] at h
        by_cases x : a % 2 = 1
        · have y : b % 2 = 1 := by omega
          simpa [x, y] using h
        · by_cases y : b % 2 = 1
          · simp [x] at h
            simp [y]
            omega
          · simpa [x, y] using h
      · have l : a / 2 + 1 ≤ b / 2 := by omega
        have m : (a / 2 + 1) * d ≤ b / 2 * d := Int.mul_le_mul_of_nonneg_right l (by omega)
        rw [Int.add_mul, Int.one_mul] at m
        have k : n ≤ a / 2 * d := by
          by_cases x : a % 2 = 1
          · simpa [x] using h
          · simp [x] at h
            omega
        by_cases y : b % 2 = 1
        · simp [y]; omega
        · simp [y]; omega

theorem ofB_in (v : Int) (r : Bool) (h0 : -268435456 ≤ v) (h1 : v ≤ 268435456) : ofB v r = 2 * v + (if r then 1 else 0) := by
  unfold ofB
  rw [if_neg (by omega)]
  cases r <;> simp
theorem ofE_in (v : Int) (h0 : -268435456 ≤ v) (h1 : v ≤ 268435456) : ofE v = 0 := by
  unfold ofE
  rw [if_neg (by omega)]
theorem not_props (a : Int) (f : finB a = true) : notE a = 0 ∧ finB (notB a) = true ∧ valV (notB a) = -(valV a) ∧ valR (notB a) = !valR a := by
  have l := (fin_iff a).1 f
  have v := valV_fin a f
  have r := valR_fin a f
  have r1 := right_of_fin f
  have e1 : notB a = 2 * (-(valV a)) + (if (!valR a) = true then 1 else 0) := by
    simp only [notB, f, if_true]
    exact ofB_in _ _ (by omega) (by omega)
  have fn : finB (notB a) = true := by
    rw [fin_iff, e1]
    split <;> omega
  refine ⟨?_, fn, ?_, ?_⟩
  · simp only [notE, r1, f, if_true]
    exact ofE_in _ (by omega) (by omega)
  · rw [valV_fin _ fn, e1]
    split <;> omega
  · rw [valR_fin _ fn, e1, r]
    by_cases x : a % 2 = 1
    · simp [x]
    · simp [x]
theorem opposite (a n d : Int) (f : finB a = true) (hd : 1 ≤ d) : holdsB (notB a) (-n) d = !holdsB a n d := by
  obtain ⟨_, fn, v, r⟩ := not_props a f
  rw [holdsB_fin _ _ _ fn hd, holdsB_fin _ _ _ f hd, v, r, Int.neg_mul]
  cases valR a
  · simp only [Bool.not_false, if_true, Bool.false_eq_true, if_false, ← decide_not]
    exact decide_eq_decide.2 (by omega)
  · simp only [Bool.not_true, if_true, Bool.false_eq_true, if_false, ← decide_not]
    exact decide_eq_decide.2 (by omega)

end Go.Proofs.Ytacgkbmhklfcaab
