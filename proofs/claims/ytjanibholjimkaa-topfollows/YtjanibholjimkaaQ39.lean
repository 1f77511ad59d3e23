/-
  The contract of the division of a number of 128 bits by one of 64 (over), and of sign.
-/
import Derived.Test.YtjanibholjimkaaQ36
import Derived.Test.YtjanibholjimkaaQ38
namespace Go.Proofs.Ytjanibholjimkaa
open Go.RowKit Go.Shelf
set_option linter.unusedVariables false

set_option maxRecDepth 100000 in
set_option maxHeartbeats 2000000 in
theorem over_raw (hi lo d a b c r : Int) (w : World) (hd : ¬ d = 0) (ea : IntKind.u64.wrap (hi.tdiv d) = a) (er : IntKind.u64.wrap (hi.tmod d) = r) (er2 : hi.tmod d = r)
    (HD : Hid (∀ w, Calls Try.prog 61 #[.int .u64 r, .int .u64 lo, .int .u64 d] w fun e w' => e = .returned (.tuple #[.int .u64 b, .int .u64 c]) ∧ Below w.heap.size w w')) :
    Calls Try.prog 45 #[.agg #[.int .u64 hi, .int .u64 lo], .int .u64 d] w fun e w' => e = .returned (.tuple #[.agg #[.int .u64 a, .int .u64 b], .int .u64 c]) ∧ Below w.heap.size w w' := by
  go_enter Try.func45, Try.ntmps45
  go_wp2
  go_quiet (fail)
  go_wp2_with fail
  refine (HD.out _).mono ?_
  rintro e w1 ⟨rfl, hb⟩
  have s0 := kc ⟨w.heap.size + 1, 0, none⟩ (.int .u64 0) hb (by first | assumption | simp [go_sem, *])
  have s1 := kc ⟨w.heap.size + 1, 1, none⟩ (.int .u64 0) hb (by first | assumption | simp [go_sem, *])
  have s2 := kf ⟨w.heap.size + 1, 0, none⟩ (.int .u64 0) hb (by first | assumption | simp [go_sem, *]) (by first | assumption | simp [go_sem, *])
  have s3 := kf ⟨w.heap.size + 1, 1, none⟩ (.int .u64 0) hb (by first | assumption | simp [go_sem, *]) (by first | assumption | simp [go_sem, *])
  have hB := beyond (below_drewN (two w _ _) _) hb
  clear hb
  go_wp2
  refine bodyPost_ret (v := .tuple #[.agg #[.int .u64 a, .int .u64 b], .int .u64 c]) (by simp [results, Try.results45, go_sem, *]) rfl ⟨rfl, ?_⟩
  exact set2 hB (Nat.le_succ _) _ _
theorem digit2 (d r l : Int) (r0 : 0 ≤ r) (r1 : r < d) (l0 : 0 ≤ l) (l1 : l ≤ 18446744073709551615) : (r * 18446744073709551616 + l) / d < 18446744073709551616 := by
  rw [Int.ediv_lt_iff_lt_mul (by omega)]
  omega
theorem over_any (N d : Int) (w : World) (hN : U128 N) (d0 : 0 < d) (d1 : d ≤ 18446744073709551615) :
    Calls Try.prog 45 #[wv N, .int .u64 d] w fun e w' => e = .returned (.tuple #[wv (N / d), .int .u64 (N % d)]) ∧ Below w.heap.size w w' := by
  obtain ⟨h0, h1⟩ := hi_bd hN
  obtain ⟨l0, l1⟩ := lo_bd N
  have m0 := Int.emod_nonneg (hiW N) (show d ≠ 0 by omega)
  have m1 := Int.emod_lt_of_pos (hiW N) d0
  have q0 := Int.ediv_nonneg h0 (Int.le_of_lt d0)
  have q1 : hiW N / d ≤ hiW N := Int.ediv_le_self d h0
  have e := Int.mul_ediv_add_emod (hiW N) d
  have hl := hilo N
  have f := Int.mul_ediv_add_emod ((hiW N % d) * 18446744073709551616 + loW N) d
  have f0 := Int.emod_nonneg ((hiW N % d) * 18446744073709551616 + loW N) (show d ≠ 0 by omega)
  have f1 := Int.emod_lt_of_pos ((hiW N % d) * 18446744073709551616 + loW N) d0
  have t := digit2 d (hiW N % d) (loW N) m0 m1 l0 l1
  have un := (Int.ediv_emod_unique (a := N) (b := d) (r := ((hiW N % d) * 18446744073709551616 + loW N) % d) (q := hiW N / d * 18446744073709551616 + ((hiW N % d) * 18446744073709551616 + loW N) / d) d0).2 ⟨by
    rw [Int.mul_add, ← Int.mul_assoc]
    generalize d * (hiW N / d) = x at *
    generalize d * (((hiW N % d) * 18446744073709551616 + loW N) / d) = y at *
    omega, f0, f1⟩
  have g0 : 0 ≤ ((hiW N % d) * 18446744073709551616 + loW N) / d := Int.ediv_nonneg (by omega) (by omega)
  have c := over_raw (hiW N) (loW N) d (hiW N / d) (((hiW N % d) * 18446744073709551616 + loW N) / d) (((hiW N % d) * 18446744073709551616 + loW N) % d) (hiW N % d) w (by omega)
    (by rw [Int.tdiv_eq_ediv_of_nonneg h0, IntKind.wrap_u64]; omega) (by rw [Int.tmod_eq_emod_of_nonneg h0, IntKind.wrap_u64]; omega) (Int.tmod_eq_emod_of_nonneg h0) (fun w => div_any _ _ _ w m0 m1 d1 l0 l1)
  have ev : Value.agg #[.int .u64 (hiW N / d), .int .u64 (((hiW N % d) * 18446744073709551616 + loW N) / d)] = wv (N / d) := by
    rw [un.1]
    apply wv_mk
    · unfold hiW; unfold hiW at *; omega
    · unfold loW; unfold hiW loW at *; omega
  rw [ev, ← un.2] at c
  exact c

/-! ### sign -/
theorem sign_zero (a b : Int) (g : Bool) (w : World) (HZ : Hid (∀ w, Calls Try.prog 66 #[.agg #[.int .u64 a, .int .u64 b]] w fun e w' => e = .returned (.bool true) ∧ Below w.heap.size w w')) :
    Calls Try.prog 53 #[.agg #[.int .u64 a, .int .u64 b, .bool g]] w fun e w' => e = .returned (.int .i64 0) ∧ Below w.heap.size w w' := by
  go_enter Try.func53, Try.ntmps53
  go_wp2_with fail
  refine (HZ.out _).mono ?_
  rintro e w1 ⟨rfl, hb⟩
  go_wp2
  go_ret
  exact ⟨rfl, beyond (single w _) hb⟩
theorem sign_some (a b : Int) (g : Bool) (w : World) (HZ : Hid (∀ w, Calls Try.prog 66 #[.agg #[.int .u64 a, .int .u64 b]] w fun e w' => e = .returned (.bool false) ∧ Below w.heap.size w w')) :
    Calls Try.prog 53 #[.agg #[.int .u64 a, .int .u64 b, .bool g]] w fun e w' => e = .returned (.int .i64 (if g then -1 else 1)) ∧ Below w.heap.size w w' := by
  cases g
  all_goals
    go_enter Try.func53, Try.ntmps53
    go_wp2_with fail
    refine (HZ.out _).mono ?_
    rintro e w1 ⟨rfl, hb⟩
    have s0 := kc ⟨w.heap.size, 2, none⟩ _ hb (by simp [go_sem]; rfl)
    have hB := beyond (single w _) hb
    clear hb
    go_wp2
    go_ret
    exact ⟨rfl, hB⟩
theorem sign_any (N : Int) (g : Bool) (w : World) (hN : U128 N) :
    Calls Try.prog 53 #[sv N g] w fun e w' => e = .returned (.int .i64 (if N = 0 then 0 else if g then -1 else 1)) ∧ Below w.heap.size w w' := by
  have Z := fun w => zero_any N w hN
  by_cases h : N = 0
  · rw [decide_eq_true h] at Z
    rw [if_pos h]
    exact sign_zero _ _ g w Z
  · rw [decide_eq_false h] at Z
    rw [if_neg h]
    exact sign_some _ _ g w Z
end Go.Proofs.Ytjanibholjimkaa
