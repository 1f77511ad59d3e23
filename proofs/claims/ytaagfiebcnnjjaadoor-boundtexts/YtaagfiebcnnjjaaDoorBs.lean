/-
  The walk of the law BoundStricter: for every two bounds and fraction it returns true, and nothing that was there has turned; the condition: the library's table of powers of ten lies as its text lays it.
-/
import Derived.Test.YtaagfiebcnnjjaaDoorBh
import Derived.OpenShut
namespace Go.Proofs.YtaagfiebcnnjjaaDoor
open Go.RowKit
set_option linter.unusedVariables false

theorem below_after {w w1 w2 : World} (h1 : Below w.heap.size w w1) (h2 : Below w1.heap.size w1 w2) : Below w.heap.size w w2 := h1.trans (h2.mono h1.size)
theorem from_below {P : Program} {f : Nat} {args : Array Value} {w w0 : World} {v : Ending} (h : Calls P f args w fun e w' => e = v ∧ Below w.heap.size w w') (hb : Below w0.heap.size w0 w) :
    Calls P f args w fun e w' => e = v ∧ Below w0.heap.size w0 w' :=
  h.mono fun e w' ⟨he, h2⟩ => ⟨he, below_after hb h2⟩

theorem holdsB_fin (b n d : Int) (f : finB b = true) (hd : 1 ≤ d) : holdsB b n d = if valR b then decide (n ≤ valV b * d) else decide (n < valV b * d) := by
  have h : b ≠ 2147483647 := by
    have := (fin_iff b).1 f
    omega
  simp [holdsB, h, f, hd]
theorem holdsB_inf (n d : Int) : holdsB 2147483647 n d = true := by simp [holdsB]
theorem valV_fin (b : Int) (f : finB b = true) : valV b = b / 2 := by simp [valV, f]
theorem valR_fin (b : Int) (f : finB b = true) : valR b = decide (b % 2 = 1) := by simp [valR, f]

theorem stricter (a b n d : Int) (ra : rightB a = true) (rb : rightB b = true) (hd : 1 ≤ d) (hab : a ≤ b) (h : holdsB a n d = true) : holdsB b n d = true := by
  rcases fin_or_inf rb with rfl | fb
  · exact holdsB_inf n d
  · have lb := (fin_iff b).1 fb
    rcases fin_or_inf ra with rfl | fa
    · omega
    · rw [holdsB_fin _ _ _ fa hd, valV_fin a fa, valR_fin a fa] at h
      rw [holdsB_fin _ _ _ fb hd, valV_fin b fb, valR_fin b fb]
      by_cases e : a / 2 = b / 2
      · rw [e] at h
        by_cases x : a % 2 = 1
        · have y : b % 2 = 1 := by omega
          simpa [x, y] using h
        · by_cases y : b % 2 = 1
          · simp [x] at h
            simp [y]
            omega
          · simpa [x, y] using h
      · have l : a / 2 + 1 ≤ b / 2 := by omega
        have m : (a / 2 + 1) * d ≤ b / 2 * d := Int.mul_le_mul_of_nonneg_right l (by omega)
        rw [Int.add_mul, Int.one_mul] at m
        have k : n ≤ a / 2 * d := by
          by_cases x : a % 2 = 1
          · simpa [x] using h
          · simp [x] at h
            omega
        by_cases y : b % 2 = 1
        · simp [y]; omega
        · simp [y]; omega

theorem ofB_in (v : Int) (r : Bool) (h0 : -268435456 ≤ v) (h1 : v ≤ 268435456) : ofB v r = 2 * v + (if r then 1 else 0) := by
  unfold ofB
  rw [if_neg (by omega)]
  cases r <;> simp
theorem ofE_in (v : Int) (h0 : -268435456 ≤ v) (h1 : v ≤ 268435456) : ofE v = 0 := by
  unfold ofE
  rw [if_neg (by omega)]
theorem not_props (a : Int) (f : finB a = true) : notE a = 0 ∧ finB (notB a) = true ∧ valV (notB a) = -(valV a) ∧ valR (notB a) = !valR a := by
  have l := (fin_iff a).1 f
  have v := valV_fin a f
  have r := valR_fin a f
  have r1 := right_of_fin f
  have e1 : notB a = 2 * (-(valV a)) + (if (!valR a) = true then 1 else 0) := by
    simp only [notB, f, if_true]
    exact ofB_in _ _ (by omega) (by omega)
  have fn : finB (notB a) = true := by
    rw [fin_iff, e1]
    split <;> omega
  refine ⟨?_, fn, ?_, ?_⟩
  · simp only [notE, r1, f, if_true]
    exact ofE_in _ (by omega) (by omega)
  · rw [valV_fin _ fn, e1]
    split <;> omega
  · rw [valR_fin _ fn, e1, r]
    by_cases x : a % 2 = 1
    · simp [x]
    · simp [x]
theorem opposite (a n d : Int) (f : finB a = true) (hd : 1 ≤ d) : holdsB (notB a) (-n) d = !holdsB a n d := by
  obtain ⟨_, fn, v, r⟩ := not_props a f
  rw [holdsB_fin _ _ _ fn hd, holdsB_fin _ _ _ f hd, v, r, Int.neg_mul]
  cases valR a
  · simp only [Bool.not_false, if_true, Bool.false_eq_true, if_false, ← decide_not]
    exact decide_eq_decide.2 (by omega)
  · simp only [Bool.not_true, if_true, Bool.false_eq_true, if_false, ← decide_not]
    exact decide_eq_decide.2 (by omega)

namespace boundStricter
theorem fits (w : World) (x : Obj) (k : Nat) : Below w.heap.size w ((w.alloc x).drewN k) := below_drewN ((Below.refl _ _).alloc (Nat.le_refl _) _) k

set_option maxHeartbeats 1000000 in
theorem walk (a : Int) (ha : (Lit.int .i32 a).wf = true) (b : Int) (hb : (Lit.int .i32 b).wf = true) (n : Int) (hn : (Lit.int .i64 n).wf = true) (d : Int) (hd : (Lit.int .i64 d).wf = true) (w : World) (ht : Pow w) :
    Calls Tryd.prog 6 #[.int .i32 a, .int .i32 b, .agg #[.int .i64 n, .int .i64 d]] w fun e w' => e = .returned (.bool true) ∧ Below w.heap.size w w' := by
  obtain ⟨n0, n1⟩ := bounds_i64 hn
  obtain ⟨d0, d1⟩ := bounds_i64 hd
  clear ha hb hn hd
  cases ra : rightB a
  · go_enter Tryd.func6, Tryd.ntmps6
    go_wp2
    go_quiet (fail)
    go_wp2_with (first | (go_at_call 15; refine (right_any _ _).mono ?_; rintro e w' ⟨rfl, rfl⟩) | (go_at_call 14; refine (from_below (live_any _ (pow_later ht (by first | assumption | exact fits w _ _))) (by first | assumption | exact fits w _ _)).mono ?_; rintro e w' ⟨rfl, hb⟩) | (go_at_call 29; refine (from_below (holds_any _ _ _ _ d1 (by omega) (by omega)) (by first | assumption | exact fits w _ _)).mono ?_; rintro e w' ⟨rfl, hb⟩) | (go_at_call 21; refine (not_any _ _).mono ?_; rintro e w' ⟨rfl, rfl⟩))
    go_ret
    exact ⟨rfl, by assumption⟩
  cases rb : rightB b
  · go_enter Tryd.func6, Tryd.ntmps6
    go_wp2
    go_quiet (fail)
    go_wp2_with (first | (go_at_call 15; refine (right_any _ _).mono ?_; rintro e w' ⟨rfl, rfl⟩) | (go_at_call 14; refine (from_below (live_any _ (pow_later ht (by first | assumption | exact fits w _ _))) (by first | assumption | exact fits w _ _)).mono ?_; rintro e w' ⟨rfl, hb⟩) | (go_at_call 29; refine (from_below (holds_any _ _ _ _ d1 (by omega) (by omega)) (by first | assumption | exact fits w _ _)).mono ?_; rintro e w' ⟨rfl, hb⟩) | (go_at_call 21; refine (not_any _ _).mono ?_; rintro e w' ⟨rfl, rfl⟩))
    go_ret
    exact ⟨rfl, by assumption⟩
  by_cases hd : d < 1
  · go_enter Tryd.func6, Tryd.ntmps6
    go_wp2
    go_quiet (fail)
    go_wp2_with (first | (go_at_call 15; refine (right_any _ _).mono ?_; rintro e w' ⟨rfl, rfl⟩) | (go_at_call 14; refine (from_below (live_any _ (pow_later ht (by first | assumption | exact fits w _ _))) (by first | assumption | exact fits w _ _)).mono ?_; rintro e w' ⟨rfl, hb⟩) | (go_at_call 29; refine (from_below (holds_any _ _ _ _ d1 (by omega) (by omega)) (by first | assumption | exact fits w _ _)).mono ?_; rintro e w' ⟨rfl, hb⟩) | (go_at_call 21; refine (not_any _ _).mono ?_; rintro e w' ⟨rfl, rfl⟩))
    go_ret
    exact ⟨rfl, by assumption⟩
  have hd : 1 ≤ d := by omega
  by_cases hn : n = -9223372036854775808
  · have hn : (n == -9223372036854775808) = true := by simpa using hn
    go_enter Tryd.func6, Tryd.ntmps6
    go_wp2
    go_quiet (fail)
    go_wp2_with (first | (go_at_call 15; refine (right_any _ _).mono ?_; rintro e w' ⟨rfl, rfl⟩) | (go_at_call 14; refine (from_below (live_any _ (pow_later ht (by first | assumption | exact fits w _ _))) (by first | assumption | exact fits w _ _)).mono ?_; rintro e w' ⟨rfl, hb⟩) | (go_at_call 29; refine (from_below (holds_any _ _ _ _ d1 (by omega) (by omega)) (by first | assumption | exact fits w _ _)).mono ?_; rintro e w' ⟨rfl, hb⟩) | (go_at_call 21; refine (not_any _ _).mono ?_; rintro e w' ⟨rfl, rfl⟩))
    go_ret
    exact ⟨rfl, by assumption⟩
  have hn' : (n == -9223372036854775808) = false := by simpa using hn
  have n2 : -9223372036854775807 ≤ n := by omega
  clear hn n0
  by_cases ai : a = 2147483647
  · subst ai
    have h1 := holdsB_inf n d
    have ne : notE 2147483647 = 4 := by decide
    by_cases hle : 2147483647 ≤ b
    · have h2 := stricter 2147483647 b n d ra rb hd hle h1
      go_enter Tryd.func6, Tryd.ntmps6
      go_wp2
      go_quiet (fail)
      go_wp2_with (first | (go_at_call 15; refine (right_any _ _).mono ?_; rintro e w' ⟨rfl, rfl⟩) | (go_at_call 14; refine (from_below (live_any _ (pow_later ht (by first | assumption | exact fits w _ _))) (by first | assumption | exact fits w _ _)).mono ?_; rintro e w' ⟨rfl, hb⟩) | (go_at_call 29; refine (from_below (holds_any _ _ _ _ d1 (by omega) (by omega)) (by first | assumption | exact fits w _ _)).mono ?_; rintro e w' ⟨rfl, hb⟩) | (go_at_call 21; refine (not_any _ _).mono ?_; rintro e w' ⟨rfl, rfl⟩))
      go_ret
      exact ⟨rfl, by assumption⟩
    · have hle : decide (2147483647 ≤ b) = false := by simpa using hle
      go_enter Tryd.func6, Tryd.ntmps6
      go_wp2
      go_quiet (fail)
      go_wp2_with (first | (go_at_call 15; refine (right_any _ _).mono ?_; rintro e w' ⟨rfl, rfl⟩) | (go_at_call 14; refine (from_below (live_any _ (pow_later ht (by first | assumption | exact fits w _ _))) (by first | assumption | exact fits w _ _)).mono ?_; rintro e w' ⟨rfl, hb⟩) | (go_at_call 29; refine (from_below (holds_any _ _ _ _ d1 (by omega) (by omega)) (by first | assumption | exact fits w _ _)).mono ?_; rintro e w' ⟨rfl, hb⟩) | (go_at_call 21; refine (not_any _ _).mono ?_; rintro e w' ⟨rfl, rfl⟩))
      go_ret
      exact ⟨rfl, by assumption⟩
  · have ai' : (a == 2147483647) = false := by simpa using ai
    have fa : finB a = true := by
      rcases fin_or_inf ra with h | h
      · exact absurd h ai
      · exact h
    have ne := (not_props a fa).1
    have op := opposite a n d fa hd
    clear ai fa
    cases h1 : holdsB a n d
    · rw [h1] at op
      have op : holdsB (notB a) (-n) d = true := op
      by_cases hle : a ≤ b
      · go_enter Tryd.func6, Tryd.ntmps6
        go_wp2
        go_quiet (fail)
        go_wp2_with (first | (go_at_call 15; refine (right_any _ _).mono ?_; rintro e w' ⟨rfl, rfl⟩) | (go_at_call 14; refine (from_below (live_any _ (pow_later ht (by first | assumption | exact fits w _ _))) (by first | assumption | exact fits w _ _)).mono ?_; rintro e w' ⟨rfl, hb⟩) | (go_at_call 29; refine (from_below (holds_any _ _ _ _ d1 (by omega) (by omega)) (by first | assumption | exact fits w _ _)).mono ?_; rintro e w' ⟨rfl, hb⟩) | (go_at_call 21; refine (not_any _ _).mono ?_; rintro e w' ⟨rfl, rfl⟩))
        go_ret
        exact ⟨rfl, by assumption⟩
      · have hle : decide (a ≤ b) = false := by simpa using hle
        go_enter Tryd.func6, Tryd.ntmps6
        go_wp2
        go_quiet (fail)
        go_wp2_with (first | (go_at_call 15; refine (right_any _ _).mono ?_; rintro e w' ⟨rfl, rfl⟩) | (go_at_call 14; refine (from_below (live_any _ (pow_later ht (by first | assumption | exact fits w _ _))) (by first | assumption | exact fits w _ _)).mono ?_; rintro e w' ⟨rfl, hb⟩) | (go_at_call 29; refine (from_below (holds_any _ _ _ _ d1 (by omega) (by omega)) (by first | assumption | exact fits w _ _)).mono ?_; rintro e w' ⟨rfl, hb⟩) | (go_at_call 21; refine (not_any _ _).mono ?_; rintro e w' ⟨rfl, rfl⟩))
        go_ret
        exact ⟨rfl, by assumption⟩
    · rw [h1] at op
      have op : holdsB (notB a) (-n) d = false := op
      by_cases hle : a ≤ b
      · have h2 := stricter a b n d ra rb hd hle h1
        go_enter Tryd.func6, Tryd.ntmps6
        go_wp2
        go_quiet (fail)
        go_wp2_with (first | (go_at_call 15; refine (right_any _ _).mono ?_; rintro e w' ⟨rfl, rfl⟩) | (go_at_call 14; refine (from_below (live_any _ (pow_later ht (by first | assumption | exact fits w _ _))) (by first | assumption | exact fits w _ _)).mono ?_; rintro e w' ⟨rfl, hb⟩) | (go_at_call 29; refine (from_below (holds_any _ _ _ _ d1 (by omega) (by omega)) (by first | assumption | exact fits w _ _)).mono ?_; rintro e w' ⟨rfl, hb⟩) | (go_at_call 21; refine (not_any _ _).mono ?_; rintro e w' ⟨rfl, rfl⟩))
        go_ret
        exact ⟨rfl, by assumption⟩
      · have hle : decide (a ≤ b) = false := by simpa using hle
        go_enter Tryd.func6, Tryd.ntmps6
        go_wp2
        go_quiet (fail)
        go_wp2_with (first | (go_at_call 15; refine (right_any _ _).mono ?_; rintro e w' ⟨rfl, rfl⟩) | (go_at_call 14; refine (from_below (live_any _ (pow_later ht (by first | assumption | exact fits w _ _))) (by first | assumption | exact fits w _ _)).mono ?_; rintro e w' ⟨rfl, hb⟩) | (go_at_call 29; refine (from_below (holds_any _ _ _ _ d1 (by omega) (by omega)) (by first | assumption | exact fits w _ _)).mono ?_; rintro e w' ⟨rfl, hb⟩) | (go_at_call 21; refine (not_any _ _).mono ?_; rintro e w' ⟨rfl, rfl⟩))
        go_ret
        exact ⟨rfl, by assumption⟩
end boundStricter
end Go.Proofs.YtaagfiebcnnjjaaDoor
