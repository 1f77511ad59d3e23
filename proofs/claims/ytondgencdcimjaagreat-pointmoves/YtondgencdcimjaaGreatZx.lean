/-
  The contracts of the document's fractions (gnomonref02): size, below, plus, minus, divide.
-/
import Derived.Test.YtondgencdcimjaaGreatZu
import Derived.Test.YtondgencdcimjaaGreatZv
namespace Go.Proofs.YtondgencdcimjaaGreat
open Go.RowKit Go.Shelf
set_option linter.unusedVariables false
theorem xsize_any (n : Int) (w : World) (h0 : -9223372036854775808 ≤ n) (h1 : n ≤ 9223372036854775807) :
    Calls Tryz.prog 111 #[.int .i64 n] w fun e w' => e = .returned (.int .u64 (sz n)) ∧ w' = w := by
  by_cases h : n < 0
  · have e : sz n = -n := by simp [sz, h]
    rw [e]
    have E := hideR (sz_neg_eq n h h0)
    clear e
    go_enter Tryz.func111, Tryz.ntmps111
    go_wp2
    go_ret
    exact ⟨retI E.out, rfl⟩
  · have e : sz n = n := by simp [sz, h]
    rw [e]
    have E := hideR (sz_pos_eq n (by omega) h1)
    clear e
    go_enter Tryz.func111, Tryz.ntmps111
    go_wp2
    go_ret
    exact ⟨retI (by first | exact E.out | rfl), rfl⟩

set_option maxHeartbeats 400000 in
theorem xminus_raw (ah al bh bl : Int) (w : World) (a0 : 0 ≤ ah) (a1 : 0 ≤ al) (b0 : 0 ≤ bh) (b1 : 0 ≤ bl) (b2 : bh ≤ 18446744073709551615) (b3 : bl ≤ 18446744073709551615) (k0 : 0 ≤ bw al bl) (k1 : bw al bl ≤ 1) :
    Calls Tryz.prog 153 #[.agg #[.int .u64 ah, .int .u64 al], .agg #[.int .u64 bh, .int .u64 bl]] w fun e w' => e = .returned (.agg #[.int .u64 (sb ah bh (bw al bl)), .int .u64 (sb al bl 0)]) ∧ Below w.heap.size w w' := by
  go_enter Tryz.func153, Tryz.ntmps153
  go_wp2_with (first | simp only [sub64_0 al bl a1 b1 b3] | simp only [sub64_c ah bh _ a0 b0 b2 k0 k1])
  exact bodyPost_ret (v := .agg #[.int .u64 (sb ah bh (bw al bl)), .int .u64 (sb al bl 0)]) (by simp [results, Tryz.results153, go_sem]) rfl ⟨rfl, three _ _ _ _⟩
theorem xbelow_lt (a b c d : Int) (w : World) (h : a < c) :
    Calls Tryz.prog 152 #[.agg #[.int .u64 a, .int .u64 b], .agg #[.int .u64 c, .int .u64 d]] w fun e w' => e = .returned (.bool true) ∧ Below w.heap.size w w' := by
  go_enter Tryz.func152, Tryz.ntmps152
  go_wp2
  go_ret
  exact ⟨rfl, two _ _ _⟩
theorem xbelow_gt (a b c d : Int) (w : World) (h : c < a) :
    Calls Tryz.prog 152 #[.agg #[.int .u64 a, .int .u64 b], .agg #[.int .u64 c, .int .u64 d]] w fun e w' => e = .returned (.bool false) ∧ Below w.heap.size w w' := by
  have h1 : decide (a < c) = false := by simp; omega
  have h2 : (a == c) = false := by simp; omega
  go_enter Tryz.func152, Tryz.ntmps152
  go_wp2
  go_ret
  exact ⟨rfl, two _ _ _⟩
theorem xbelow_eq (a b d : Int) (w : World) :
    Calls Tryz.prog 152 #[.agg #[.int .u64 a, .int .u64 b], .agg #[.int .u64 a, .int .u64 d]] w fun e w' => e = .returned (.bool (decide (b < d))) ∧ Below w.heap.size w w' := by
  have h1 : decide (a < a) = false := by simp
  go_enter Tryz.func152, Tryz.ntmps152
  go_wp2
  go_ret
  exact ⟨rfl, two _ _ _⟩
theorem xbelow_any (M N : Int) (w : World) :
    Calls Tryz.prog 152 #[wv M, wv N] w fun e w' => e = .returned (.bool (decide (M < N))) ∧ Below w.heap.size w w' := by
  have k1 : hiW M < hiW N → M < N := by unfold hiW; omega
  have k2 : hiW M = hiW N → (M < N ↔ loW M < loW N) := by unfold hiW loW; omega
  have k3 : hiW N < hiW M → ¬ M < N := by unfold hiW; omega
  by_cases c1 : hiW M < hiW N
  · have e : decide (M < N) = true := by simpa using k1 c1
    rw [e]
    exact xbelow_lt _ _ _ _ w c1
  · by_cases c2 : hiW N < hiW M
    · have e : decide (M < N) = false := by simpa using k3 c2
      rw [e]
      exact xbelow_gt _ _ _ _ w c2
    · have c3 : hiW M = hiW N := by omega
      have e : decide (M < N) = decide (loW M < loW N) := decide_eq_decide.2 (k2 c3)
      have g := xbelow_eq (hiW M) (loW M) (loW N) w
      rw [e]
      simp only [wv]
      rw [← c3]
      exact g
set_option maxHeartbeats 400000 in
theorem xplus_raw (ah al bh bl : Int) (w : World) (a0 : 0 ≤ ah) (a1 : 0 ≤ al) (b0 : 0 ≤ bh) (b1 : 0 ≤ bl) (k0 : 0 ≤ cy al bl) (k1 : cy al bl ≤ 1) :
    Calls Tryz.prog 151 #[.agg #[.int .u64 ah, .int .u64 al], .agg #[.int .u64 bh, .int .u64 bl]] w fun e w' => e = .returned (.agg #[.int .u64 (ad ah bh (cy al bl)), .int .u64 (ad al bl 0)]) ∧ Below w.heap.size w w' := by
  go_enter Tryz.func151, Tryz.ntmps151
  go_wp2_with (first | simp only [add64_0 al bl a1 b1] | simp only [add64_c ah bh _ a0 b0 k0 k1])
  exact bodyPost_ret (v := .agg #[.int .u64 (ad ah bh (cy al bl)), .int .u64 (ad al bl 0)]) (by simp [results, Tryz.results151, go_sem]) rfl ⟨rfl, three _ _ _ _⟩
theorem xplus_any (M N : Int) (w : World) (hM : U128 M) (hN : U128 N) (h : U128 (M + N)) :
    Calls Tryz.prog 151 #[wv M, wv N] w fun e w' => e = .returned (wv (M + N)) ∧ Below w.heap.size w w' := by
  obtain ⟨m0, m1⟩ := hi_bd hM
  obtain ⟨n0, n1⟩ := hi_bd hN
  obtain ⟨p0, p1⟩ := lo_bd M
  obtain ⟨q0, q1⟩ := lo_bd N
  have c := xplus_raw (hiW M) (loW M) (hiW N) (loW N) w m0 p0 n0 q0 (by unfold cy; omega) (by unfold cy; omega)
  have e : Value.agg #[.int .u64 (ad (hiW M) (hiW N) (cy (loW M) (loW N))), .int .u64 (ad (loW M) (loW N) 0)] = wv (M + N) := by
    obtain ⟨h0, h1⟩ := h
    apply wv_mk
    · unfold ad cy hiW loW; omega
    · unfold ad loW; omega
  rw [e] at c
  exact c
theorem xminus_any (M N : Int) (w : World) (hM : U128 M) (hN : U128 N) :
    Calls Tryz.prog 153 #[wv M, wv N] w fun e w' => e = .returned (wv ((M - N) % 340282366920938463463374607431768211456)) ∧ Below w.heap.size w w' := by
  obtain ⟨m0, m1⟩ := hi_bd hM
  obtain ⟨n0, n1⟩ := hi_bd hN
  obtain ⟨p0, p1⟩ := lo_bd M
  obtain ⟨q0, q1⟩ := lo_bd N
  have c := xminus_raw (hiW M) (loW M) (hiW N) (loW N) w m0 p0 n0 q0 n1 q1 (by unfold bw; split <;> decide) (by unfold bw; split <;> decide)
  have e : Value.agg #[.int .u64 (sb (hiW M) (hiW N) (bw (loW M) (loW N))), .int .u64 (sb (loW M) (loW N) 0)] = wv ((M - N) % 340282366920938463463374607431768211456) := by
    obtain ⟨h0, h1⟩ := hM
    obtain ⟨g0, g1⟩ := hN
    apply wv_mk
    · unfold sb bw hiW loW; split <;> omega
    · unfold sb loW; omega
  rw [e] at c
  exact c
theorem or_bit (y b : Int) (y0 : 0 ≤ y) (b0 : 0 ≤ b) (b1 : b ≤ 1) (h : 2 * y ≤ 18446744073709551614) : bits BinOp.or IntKind.u64 (2 * y) b = 2 * y + b := by
  obtain ⟨a, rfl⟩ := Int.eq_ofNat_of_zero_le y0
  obtain ⟨c, rfl⟩ := Int.eq_ofNat_of_zero_le b0
  have h := bits_or_u64_nat (2 * a) c (by omega) (by omega)
  have e : 2 * a ||| c = 2 * a + c := by
    have := Nat.two_pow_add_eq_or_of_lt (i := 1) (b := c) (by omega) a
    simpa using this.symm
  rw [e] at h
  have h' : bits .or .u64 (2 * (a : Int)) (c : Int) = ((2 * a + c : Nat) : Int) := h
  rw [h']
  omega
theorem and_one (x : Int) (h0 : 0 ≤ x) (h1 : x ≤ 18446744073709551615) : bits BinOp.and IntKind.u64 x 1 = x % 2 := by
  obtain ⟨a, rfl⟩ := Int.eq_ofNat_of_zero_le h0
  have h := bits_and_u64_nat a 1 (by omega) (by omega)
  rw [Nat.and_one_is_mod] at h
  have h' : bits .and .u64 (a : Int) 1 = ((a % 2 : Nat) : Int) := h
  rw [h']
  omega
/-- The digit at a place of a number of two words. -/
theorem digit_hi (N : Int) (j : Nat) (h : 64 ≤ j) : hiW N / 2 ^ (j - 64) % 2 = N / 2 ^ j % 2 := by
  unfold hiW
  have e : (2 : Int) ^ j = 18446744073709551616 * 2 ^ (j - 64) := by
    have : j = 64 + (j - 64) := by omega
    rw [this, Int.pow_add, Nat.add_sub_cancel_left]
    rfl
  rw [e, Int.ediv_ediv_of_nonneg (by decide)]
theorem digit_lo (N : Int) (j : Nat) (h : j < 64) : loW N / 2 ^ (j % 64) % 2 = N / 2 ^ j % 2 := by
  rw [Nat.mod_eq_of_lt h]
  unfold loW
  have e : (18446744073709551616 : Int) = 2 ^ j * (2 * 2 ^ (63 - j)) := by
    have e1 : (18446744073709551616 : Int) = 2 ^ (j + (1 + (63 - j))) := by
      have : j + (1 + (63 - j)) = 64 := by omega
      rw [this]
      rfl
    rw [e1, Int.pow_add, Int.pow_add]
    rfl
  have p : (0 : Int) < 2 ^ j := Int.pow_pos (by decide)
  have d := Int.mul_ediv_add_emod N 18446744073709551616
  have k : N / 2 ^ j = N % 18446744073709551616 / 2 ^ j + 2 * 2 ^ (63 - j) * (N / 18446744073709551616) := by
    have : N = N % 18446744073709551616 + 2 ^ j * (2 * 2 ^ (63 - j) * (N / 18446744073709551616)) := by
      rw [← Int.mul_assoc, ← e]
      omega
    conv => lhs; rw [this]
    rw [Int.add_mul_ediv_left _ _ (by omega)]
  rw [k, Int.mul_assoc, Int.add_mul_emod_self_left]
/-- One digit more. -/
theorem digit_more (N : Int) (j : Nat) : N / 2 ^ j = 2 * (N / 2 ^ (j + 1)) + N / 2 ^ j % 2 := by
  have e : N / 2 ^ (j + 1) = N / 2 ^ j / 2 := by
    rw [Int.pow_succ, ← Int.ediv_ediv_of_nonneg (Int.le_of_lt (Int.pow_pos (by decide)))]
  rw [e]
  omega
/-- One step of the division by digits. -/
theorem div_more (A D b : Int) (d0 : 0 < D) (b0 : 0 ≤ b) (b1 : b ≤ 1) :
    (D ≤ 2 * (A % D) + b → (2 * A + b) / D = 2 * (A / D) + 1 ∧ (2 * A + b) % D = 2 * (A % D) + b - D) ∧ (2 * (A % D) + b < D → (2 * A + b) / D = 2 * (A / D) ∧ (2 * A + b) % D = 2 * (A % D) + b) := by
  have e := Int.mul_ediv_add_emod A D
  have r0 := Int.emod_nonneg A (show D ≠ 0 by omega)
  have r1 := Int.emod_lt_of_pos A d0
  constructor
  · intro h
    refine (Int.ediv_emod_unique d0).2 ⟨?_, by omega, by omega⟩
    rw [Int.mul_add, ← Int.mul_assoc, Int.mul_comm D 2, Int.mul_assoc]
    omega
  · intro h
    refine (Int.ediv_emod_unique d0).2 ⟨?_, by omega, by omega⟩
    rw [← Int.mul_assoc, Int.mul_comm D 2, Int.mul_assoc]
    omega
end Go.Proofs.YtondgencdcimjaaGreat

/-
  What lies in memory while the document divides numbers of 128 bits, digit by digit, and the plain laws of one digit.
-/
namespace Go.Proofs.YtondgencdcimjaaGreat
open Go.RowKit Go.Shelf
set_option linter.unusedVariables false
theorem six (w : World) (a b c d e f : Obj) : Below w.heap.size w ((((((w.alloc a).alloc b).alloc c).alloc d).alloc e).alloc f) := beyond (three w a b c) (three _ d e f)
def St (W : World) (s : Nat) (nh nl dh dl qh ql rh rl : Int) : Prop := W.cell? ⟨s, 0, none⟩ = some (.int .u64 nh) ∧ W.cell? ⟨s, 1, none⟩ = some (.int .u64 nl) ∧ W.cell? ⟨s + 1, 0, none⟩ = some (.int .u64 dh) ∧ W.cell? ⟨s + 1, 1, none⟩ = some (.int .u64 dl) ∧ W.cell? ⟨s + 1 + 1, 0, none⟩ = some (.int .u64 0) ∧ W.cell? ⟨s + 1 + 1, 1, none⟩ = some (.int .u64 0) ∧ W.cell? ⟨s + 1 + 1 + 1, 0, none⟩ = some (.int .u64 0) ∧ W.cell? ⟨s + 1 + 1 + 1, 1, none⟩ = some (.int .u64 0) ∧ W.cell? ⟨s + 1 + 1 + 1 + 1, 0, none⟩ = some (.int .u64 qh) ∧ W.cell? ⟨s + 1 + 1 + 1 + 1, 1, none⟩ = some (.int .u64 ql) ∧ W.cell? ⟨s + 1 + 1 + 1 + 1 + 1, 0, none⟩ = some (.int .u64 rh) ∧ W.cell? ⟨s + 1 + 1 + 1 + 1 + 1, 1, none⟩ = some (.int .u64 rl) ∧ W.frozen? ⟨s + 1 + 1, 0, none⟩ = false ∧ W.frozen? ⟨s + 1 + 1, 1, none⟩ = false ∧ W.frozen? ⟨s + 1 + 1 + 1, 0, none⟩ = false ∧ W.frozen? ⟨s + 1 + 1 + 1, 1, none⟩ = false ∧ W.frozen? ⟨s + 1 + 1 + 1 + 1, 0, none⟩ = false ∧ W.frozen? ⟨s + 1 + 1 + 1 + 1, 1, none⟩ = false ∧ W.frozen? ⟨s + 1 + 1 + 1 + 1 + 1, 0, none⟩ = false ∧ W.frozen? ⟨s + 1 + 1 + 1 + 1 + 1, 1, none⟩ = false
theorem st_below {W W' : World} {s : Nat} {nh nl dh dl qh ql rh rl : Int} (h : St W s nh nl dh dl qh ql rh rl) (hb : Below W.heap.size W W') : St W' s nh nl dh dl qh ql rh rl := by
  obtain ⟨c0, c1, c2, c3, c4, c5, c6, c7, c8, c9, c10, c11, f0, f1, f2, f3, f4, f5, f6, f7⟩ := h
  exact ⟨kc _ _ hb c0, kc _ _ hb c1, kc _ _ hb c2, kc _ _ hb c3, kc _ _ hb c4, kc _ _ hb c5, kc _ _ hb c6, kc _ _ hb c7, kc _ _ hb c8, kc _ _ hb c9, kc _ _ hb c10, kc _ _ hb c11, kf _ _ hb c4 f0, kf _ _ hb c5 f1, kf _ _ hb c6 f2, kf _ _ hb c7 f3, kf _ _ hb c8 f4, kf _ _ hb c9 f5, kf _ _ hb c10 f6, kf _ _ hb c11 f7⟩
theorem st_r {W : World} {s : Nat} {nh nl dh dl qh ql rh rl : Int} (h : St W s nh nl dh dl qh ql rh rl) (a b : Int) : St ((W.setCell ⟨s + 1 + 1 + 1 + 1 + 1, 0, none⟩ (.int .u64 a)).setCell ⟨s + 1 + 1 + 1 + 1 + 1, 1, none⟩ (.int .u64 b)) s nh nl dh dl qh ql a b := by
  obtain ⟨c0, c1, c2, c3, c4, c5, c6, c7, c8, c9, c10, c11, f0, f1, f2, f3, f4, f5, f6, f7⟩ := h
  have m0_2 : ¬ s = s + 1 + 1 := by omega
  have m0_3 : ¬ s = s + 1 + 1 + 1 := by omega
  have m0_4 : ¬ s = s + 1 + 1 + 1 + 1 := by omega
  have m0_5 : ¬ s = s + 1 + 1 + 1 + 1 + 1 := by omega
  have m1_3 : ¬ s + 1 = s + 1 + 1 + 1 := by omega
  have m1_4 : ¬ s + 1 = s + 1 + 1 + 1 + 1 := by omega
  have m1_5 : ¬ s + 1 = s + 1 + 1 + 1 + 1 + 1 := by omega
  have m2_0 : ¬ s + 1 + 1 = s := by omega
  have m2_4 : ¬ s + 1 + 1 = s + 1 + 1 + 1 + 1 := by omega
  have m2_5 : ¬ s + 1 + 1 = s + 1 + 1 + 1 + 1 + 1 := by omega
  have m3_0 : ¬ s + 1 + 1 + 1 = s := by omega
  have m3_1 : ¬ s + 1 + 1 + 1 = s + 1 := by omega
  have m3_5 : ¬ s + 1 + 1 + 1 = s + 1 + 1 + 1 + 1 + 1 := by omega
  have m4_0 : ¬ s + 1 + 1 + 1 + 1 = s := by omega
  have m4_1 : ¬ s + 1 + 1 + 1 + 1 = s + 1 := by omega
  have m4_2 : ¬ s + 1 + 1 + 1 + 1 = s + 1 + 1 := by omega
  have m5_0 : ¬ s + 1 + 1 + 1 + 1 + 1 = s := by omega
  have m5_1 : ¬ s + 1 + 1 + 1 + 1 + 1 = s + 1 := by omega
  have m5_2 : ¬ s + 1 + 1 + 1 + 1 + 1 = s + 1 + 1 := by omega
  have m5_3 : ¬ s + 1 + 1 + 1 + 1 + 1 = s + 1 + 1 + 1 := by omega
  unfold St
  simp [go_sem, *]
theorem st_q {W : World} {s : Nat} {nh nl dh dl qh ql rh rl : Int} (h : St W s nh nl dh dl qh ql rh rl) (a b : Int) : St ((W.setCell ⟨s + 1 + 1 + 1 + 1, 0, none⟩ (.int .u64 a)).setCell ⟨s + 1 + 1 + 1 + 1, 1, none⟩ (.int .u64 b)) s nh nl dh dl a b rh rl := by
  obtain ⟨c0, c1, c2, c3, c4, c5, c6, c7, c8, c9, c10, c11, f0, f1, f2, f3, f4, f5, f6, f7⟩ := h
  have m0_2 : ¬ s = s + 1 + 1 := by omega
  have m0_3 : ¬ s = s + 1 + 1 + 1 := by omega
  have m0_4 : ¬ s = s + 1 + 1 + 1 + 1 := by omega
  have m0_5 : ¬ s = s + 1 + 1 + 1 + 1 + 1 := by omega
  have m1_3 : ¬ s + 1 = s + 1 + 1 + 1 := by omega
  have m1_4 : ¬ s + 1 = s + 1 + 1 + 1 + 1 := by omega
  have m1_5 : ¬ s + 1 = s + 1 + 1 + 1 + 1 + 1 := by omega
  have m2_0 : ¬ s + 1 + 1 = s := by omega
  have m2_4 : ¬ s + 1 + 1 = s + 1 + 1 + 1 + 1 := by omega
  have m2_5 : ¬ s + 1 + 1 = s + 1 + 1 + 1 + 1 + 1 := by omega
  have m3_0 : ¬ s + 1 + 1 + 1 = s := by omega
  have m3_1 : ¬ s + 1 + 1 + 1 = s + 1 := by omega
  have m3_5 : ¬ s + 1 + 1 + 1 = s + 1 + 1 + 1 + 1 + 1 := by omega
  have m4_0 : ¬ s + 1 + 1 + 1 + 1 = s := by omega
  have m4_1 : ¬ s + 1 + 1 + 1 + 1 = s + 1 := by omega
  have m4_2 : ¬ s + 1 + 1 + 1 + 1 = s + 1 + 1 := by omega
  have m5_0 : ¬ s + 1 + 1 + 1 + 1 + 1 = s := by omega
  have m5_1 : ¬ s + 1 + 1 + 1 + 1 + 1 = s + 1 := by omega
  have m5_2 : ¬ s + 1 + 1 + 1 + 1 + 1 = s + 1 + 1 := by omega
  have m5_3 : ¬ s + 1 + 1 + 1 + 1 + 1 = s + 1 + 1 + 1 := by omega
  unfold St
  simp [go_sem, *]
theorem st_ql {W : World} {s : Nat} {nh nl dh dl qh ql rh rl : Int} (h : St W s nh nl dh dl qh ql rh rl) (b : Int) : St (W.setCell ⟨s + 1 + 1 + 1 + 1, 1, none⟩ (.int .u64 b)) s nh nl dh dl qh b rh rl := by
  obtain ⟨c0, c1, c2, c3, c4, c5, c6, c7, c8, c9, c10, c11, f0, f1, f2, f3, f4, f5, f6, f7⟩ := h
  have m0_2 : ¬ s = s + 1 + 1 := by omega
  have m0_3 : ¬ s = s + 1 + 1 + 1 := by omega
  have m0_4 : ¬ s = s + 1 + 1 + 1 + 1 := by omega
  have m0_5 : ¬ s = s + 1 + 1 + 1 + 1 + 1 := by omega
  have m1_3 : ¬ s + 1 = s + 1 + 1 + 1 := by omega
  have m1_4 : ¬ s + 1 = s + 1 + 1 + 1 + 1 := by omega
  have m1_5 : ¬ s + 1 = s + 1 + 1 + 1 + 1 + 1 := by omega
  have m2_0 : ¬ s + 1 + 1 = s := by omega
  have m2_4 : ¬ s + 1 + 1 = s + 1 + 1 + 1 + 1 := by omega
  have m2_5 : ¬ s + 1 + 1 = s + 1 + 1 + 1 + 1 + 1 := by omega
  have m3_0 : ¬ s + 1 + 1 + 1 = s := by omega
  have m3_1 : ¬ s + 1 + 1 + 1 = s + 1 := by omega
  have m3_5 : ¬ s + 1 + 1 + 1 = s + 1 + 1 + 1 + 1 + 1 := by omega
  have m4_0 : ¬ s + 1 + 1 + 1 + 1 = s := by omega
  have m4_1 : ¬ s + 1 + 1 + 1 + 1 = s + 1 := by omega
  have m4_2 : ¬ s + 1 + 1 + 1 + 1 = s + 1 + 1 := by omega
  have m5_0 : ¬ s + 1 + 1 + 1 + 1 + 1 = s := by omega
  have m5_1 : ¬ s + 1 + 1 + 1 + 1 + 1 = s + 1 := by omega
  have m5_2 : ¬ s + 1 + 1 + 1 + 1 + 1 = s + 1 + 1 := by omega
  have m5_3 : ¬ s + 1 + 1 + 1 + 1 + 1 = s + 1 + 1 + 1 := by omega
  unfold St
  simp [go_sem, *]
theorem words2 (Q : Int) (q0 : 0 ≤ Q) (q1 : 2 * Q < 340282366920938463463374607431768211456) : bits BinOp.or IntKind.u64 (IntKind.u64.wrap (hiW Q * 2)) (loW Q / 9223372036854775808) = hiW (2 * Q) ∧ IntKind.u64.wrap (loW Q * 2) = loW (2 * Q) ∧ bits BinOp.or IntKind.u64 (loW (2 * Q)) 1 = loW (2 * Q + 1) ∧ hiW (2 * Q + 1) = hiW (2 * Q) := by
  have l := lo_bd Q
  have h0 : 0 ≤ hiW Q := by unfold hiW; omega
  have h1 : hiW Q ≤ 9223372036854775807 := by unfold hiW; omega
  have e : IntKind.u64.wrap (hiW Q * 2) = 2 * hiW Q := by rw [IntKind.wrap_u64]; omega
  refine ⟨?_, ?_, ?_, ?_⟩
  · rw [e, or_bit _ _ h0 (by omega) (by omega) (by omega)]
    unfold hiW loW at *
    omega
  · rw [IntKind.wrap_u64]
    unfold loW at *
    omega
  · have e2 : loW (2 * Q) = 2 * (loW (2 * Q) / 2) := by unfold loW; omega
    have b := lo_bd (2 * Q)
    rw [e2, or_bit _ _ (by omega) (by omega) (by omega) (by omega)]
    unfold loW at *
    omega
  · unfold hiW
    omega
theorem wordsR (R b : Int) (r0 : 0 ≤ R) (r1 : R < 340282366920938463463374607431768211456) (b0 : 0 ≤ b) (b1 : b ≤ 1) : bits BinOp.or IntKind.u64 (IntKind.u64.wrap (hiW R * 2)) (loW R / 9223372036854775808) = hiW ((2 * R + b) % 340282366920938463463374607431768211456) ∧ bits BinOp.or IntKind.u64 (IntKind.u64.wrap (loW R * 2)) b = loW ((2 * R + b) % 340282366920938463463374607431768211456) := by
  have l := lo_bd R
  have h0 : 0 ≤ hiW R := by unfold hiW; omega
  have h1 : hiW R ≤ 18446744073709551615 := by unfold hiW; omega
  constructor
  · have e : IntKind.u64.wrap (hiW R * 2) = 2 * (hiW R % 9223372036854775808) := by rw [IntKind.wrap_u64]; omega
    rw [e, or_bit _ _ (by omega) (by omega) (by omega) (by omega)]
    unfold hiW loW at *
    omega
  · have e : IntKind.u64.wrap (loW R * 2) = 2 * (loW R % 9223372036854775808) := by rw [IntKind.wrap_u64]; omega
    rw [e, or_bit _ _ (by omega) b0 b1 (by omega)]
    unfold loW at *
    omega
end Go.Proofs.YtondgencdcimjaaGreat

/-
  The contract of the document's division of numbers of 128 bits, digit by digit.
-/
namespace Go.Proofs.YtondgencdcimjaaGreat
open Go.RowKit Go.Shelf
set_option linter.unusedVariables false
set_option maxRecDepth 100000 in
set_option maxHeartbeats 16000000 in
theorem xdivide_any (N D : Int) (w : World) (hN : U128 N) (hD : U128 D) (d0 : 0 < D) :
    Calls Tryz.prog 149 #[wv N, wv D] w fun e w' => e = .returned (.tuple #[wv (N / D), wv (N % D)]) ∧ Below w.heap.size w w' := by
  have HN := hideR hN
  have HD := hideR hD
  have H0 := hideR d0
  have HBl : Hid (∀ M w, Calls Tryz.prog 152 #[wv M, wv D] w fun e w' => e = .returned (.bool (decide (M < D))) ∧ Below w.heap.size w w') := hideR (fun M w => xbelow_any M D w)
  have HMi : Hid (∀ M w, U128 M → Calls Tryz.prog 153 #[wv M, wv D] w fun e w' => e = .returned (wv ((M - D) % 340282366920938463463374607431768211456)) ∧ Below w.heap.size w w') := hideR (fun M w h => xminus_any M D w h hD)
  clear hN hD d0
  have m0_2 : ¬ w.heap.size = w.heap.size + 1 + 1 := by omega
  have m0_3 : ¬ w.heap.size = w.heap.size + 1 + 1 + 1 := by omega
  have m0_4 : ¬ w.heap.size = w.heap.size + 1 + 1 + 1 + 1 := by omega
  have m0_5 : ¬ w.heap.size = w.heap.size + 1 + 1 + 1 + 1 + 1 := by omega
  have m1_3 : ¬ w.heap.size + 1 = w.heap.size + 1 + 1 + 1 := by omega
  have m1_4 : ¬ w.heap.size + 1 = w.heap.size + 1 + 1 + 1 + 1 := by omega
  have m1_5 : ¬ w.heap.size + 1 = w.heap.size + 1 + 1 + 1 + 1 + 1 := by omega
  have m2_0 : ¬ w.heap.size + 1 + 1 = w.heap.size := by omega
  have m2_4 : ¬ w.heap.size + 1 + 1 = w.heap.size + 1 + 1 + 1 + 1 := by omega
  have m2_5 : ¬ w.heap.size + 1 + 1 = w.heap.size + 1 + 1 + 1 + 1 + 1 := by omega
  have m3_0 : ¬ w.heap.size + 1 + 1 + 1 = w.heap.size := by omega
  have m3_1 : ¬ w.heap.size + 1 + 1 + 1 = w.heap.size + 1 := by omega
  have m3_5 : ¬ w.heap.size + 1 + 1 + 1 = w.heap.size + 1 + 1 + 1 + 1 + 1 := by omega
  have m4_0 : ¬ w.heap.size + 1 + 1 + 1 + 1 = w.heap.size := by omega
  have m4_1 : ¬ w.heap.size + 1 + 1 + 1 + 1 = w.heap.size + 1 := by omega
  have m4_2 : ¬ w.heap.size + 1 + 1 + 1 + 1 = w.heap.size + 1 + 1 := by omega
  have m5_0 : ¬ w.heap.size + 1 + 1 + 1 + 1 + 1 = w.heap.size := by omega
  have m5_1 : ¬ w.heap.size + 1 + 1 + 1 + 1 + 1 = w.heap.size + 1 := by omega
  have m5_2 : ¬ w.heap.size + 1 + 1 + 1 + 1 + 1 = w.heap.size + 1 + 1 := by omega
  have m5_3 : ¬ w.heap.size + 1 + 1 + 1 + 1 + 1 = w.heap.size + 1 + 1 + 1 := by omega
  go_enter Tryz.func149, Tryz.ntmps149
  go_wp2_with fail
  go_loopw [8] (fun s wr => ∃ (k : Nat) (Q R : Int), k ≤ 128 ∧ s = .int .i64 ((k : Int) - 1) ∧ Hid (St wr w.heap.size (hiW N) (loW N) (hiW D) (loW D) (hiW Q) (loW Q) (hiW R) (loW R)) ∧ Hid (Q = N / 2 ^ k / D ∧ R = N / 2 ^ k % D) ∧ Hid (Below w.heap.size w wr)) (fun s _ => (intOf s + 1).toNat)
  case atStart =>
    have z : N / 2 ^ 128 = 0 := Int.ediv_eq_zero_of_lt HN.out.1 HN.out.2
    refine ⟨128, 0, 0, Nat.le_refl _, rfl, hideR ?_, hideR ⟨by rw [z]; simp, by rw [z]; simp⟩, hideR (six w _ _ _ _ _ _)⟩
    unfold St
    simp [go_sem, hiW, loW]
  case round =>
    obtain ⟨k, Q, R, hk, rfl, hS, hQR, hB⟩ := hrel
    by_cases k0 : k = 0
    · subst k0
      have eQ : Q = N / D := by have := hQR.out.1; simpa using this
      have eR : R = N % D := by have := hQR.out.2; simpa using this
      subst eQ eR
      clear hQR HBl HMi hk
      obtain ⟨c0, c1, c2, c3, c4, c5, c6, c7, c8, c9, c10, c11, f0, f1, f2, f3, f4, f5, f6, f7⟩ := hS.out
      go_wp2_with fail
      go_region_held3 (fun w' => w'.cell? ⟨w.heap.size + 1 + 1 + 1 + 1, 0, none⟩ = some (.int .u64 (hiW (N / D))) ∧ w'.cell? ⟨w.heap.size + 1 + 1 + 1 + 1, 1, none⟩ = some (.int .u64 (loW (N / D))) ∧ w'.cell? ⟨w.heap.size + 1 + 1 + 1 + 1 + 1, 0, none⟩ = some (.int .u64 (hiW (N % D))) ∧ w'.cell? ⟨w.heap.size + 1 + 1 + 1 + 1 + 1, 1, none⟩ = some (.int .u64 (loW (N % D))))
        (first | exact ⟨by assumption, by assumption, by assumption, by assumption⟩ | go_keep | exact ⟨by simp [go_sem, *], by simp [go_sem, *], by simp [go_sem, *], by simp [go_sem, *]⟩) (fail)
      all_goals
        go_wp2
        refine bodyPost_ret (v := .tuple #[wv (N / D), wv (N % D)]) (by simp [results, Tryz.results149, go_sem, *]) rfl ⟨rfl, ?_⟩
        first | exact set2 (set2 (Below.drew hB.out) (by omega) _ _) (by omega) _ _ | exact set2 (set2 hB.out (by omega) _ _) (by omega) _ _
    · have i0 : 0 ≤ (k : Int) - 1 := by omega
      have k1 : k - 1 + 1 = k := by omega
      have HW : Hid (wrap64 ((k : Int) - 1 - 1) = (k : Int) - 1 - 1) := by show wrap64 ((k : Int) - 1 - 1) = (k : Int) - 1 - 1; unfold wrap64; omega
      have dm := digit_more N (k - 1)
      rw [k1] at dm
      have b0 : 0 ≤ N / 2 ^ (k - 1) % 2 := by omega
      have b1 : N / 2 ^ (k - 1) % 2 ≤ 1 := by omega
      have HR : Hid (0 ≤ R ∧ R < D ∧ 0 ≤ Q ∧ 2 * Q < 340282366920938463463374607431768211456 ∧ R < 340282366920938463463374607431768211456) := by
        obtain ⟨e1, e2⟩ := hQR.out
        have p : (0 : Int) < 2 ^ (k - 1) := Int.pow_pos (by decide)
        have p2 : (0 : Int) < 2 ^ k := Int.pow_pos (by decide)
        have n0 := HN.out.1
        have n1 := HN.out.2
        have A0 : 0 ≤ N / 2 ^ k := Int.ediv_nonneg n0 (by omega)
        have A1 : N / 2 ^ (k - 1) ≤ N := Int.ediv_le_self _ n0
        have q0 : 0 ≤ N / 2 ^ k / D := Int.ediv_nonneg A0 (by have := H0.out; omega)
        have q1 : N / 2 ^ k / D ≤ N / 2 ^ k := Int.ediv_le_self _ A0
        have r0 := Int.emod_nonneg (N / 2 ^ k) (show D ≠ 0 by have := H0.out; omega)
        have r1 := Int.emod_lt_of_pos (N / 2 ^ k) H0.out
        have := HD.out.2
        rw [← e1] at q0 q1
        rw [← e2] at r0 r1
        exact ⟨r0, r1, q0, by omega, by omega⟩
      have HM : Hid ((D ≤ 2 * R + N / 2 ^ (k - 1) % 2 → 2 * Q + 1 = N / 2 ^ (k - 1) / D ∧ 2 * R + N / 2 ^ (k - 1) % 2 - D = N / 2 ^ (k - 1) % D) ∧ (2 * R + N / 2 ^ (k - 1) % 2 < D → 2 * Q = N / 2 ^ (k - 1) / D ∧ 2 * R + N / 2 ^ (k - 1) % 2 = N / 2 ^ (k - 1) % D)) := by
        obtain ⟨e1, e2⟩ := hQR.out
        have h := div_more (N / 2 ^ k) D (N / 2 ^ (k - 1) % 2) H0.out b0 b1
        rw [← dm, ← e1, ← e2] at h
        exact ⟨fun c => ⟨(h.1 c).1.symm, (h.1 c).2.symm⟩, fun c => ⟨(h.2 c).1.symm, (h.2 c).2.symm⟩⟩
      have eh : 64 ≤ k - 1 → bits BinOp.and IntKind.u64 (hiW N / 2 ^ (k - 1 - 64)) 1 = N / 2 ^ (k - 1) % 2 := fun h => by
        have hb := hi_bd HN.out
        have p : (0 : Int) < 2 ^ (k - 1 - 64) := Int.pow_pos (by decide)
        rw [and_one _ (Int.ediv_nonneg hb.1 (by omega)) (by have := Int.ediv_le_self (2 ^ (k - 1 - 64)) hb.1; omega)]
        exact digit_hi N (k - 1) h
      have el : k - 1 < 64 → bits BinOp.and IntKind.u64 (loW N / 2 ^ ((k - 1) % 64)) 1 = N / 2 ^ (k - 1) % 2 := fun h => by
        have hb := lo_bd N
        have p : (0 : Int) < 2 ^ ((k - 1) % 64) := Int.pow_pos (by decide)
        rw [and_one _ (Int.ediv_nonneg hb.1 (by omega)) (by have := Int.ediv_le_self (2 ^ ((k - 1) % 64)) hb.1; omega)]
        exact digit_lo N (k - 1) h
      clear dm hQR
      generalize N / 2 ^ (k - 1) % 2 = b at *
      have HBb : Hid (0 ≤ b ∧ b ≤ 1) := hideR ⟨b0, b1⟩
      clear b0 b1
      obtain ⟨x1, x2, x3, x4⟩ := words2 Q HR.out.2.2.1 HR.out.2.2.2.1
      obtain ⟨y1, y2⟩ := wordsR R b HR.out.1 HR.out.2.2.2.2 HBb.out.1 HBb.out.2
      have HX4 := hideR x4
      clear x4
      obtain ⟨c0, c1, c2, c3, c4, c5, c6, c7, c8, c9, c10, c11, f0, f1, f2, f3, f4, f5, f6, f7⟩ := hS.out
      by_cases c64 : 64 ≤ (k : Int) - 1
      · have e1 := eh (by omega)
        clear eh el
        by_cases ct : hiW R / 9223372036854775808 = 1
        · go_wp2_with fail
          refine (HMi.out ((2 * R + b) % 340282366920938463463374607431768211456) _ ⟨by omega, by omega⟩).mono ?_
          rintro e w1 ⟨rfl, hb⟩
          have S1 := hideR (st_below (st_q (st_r hS.out _ _) _ _) hb)
          have hB1 := hideR (beyond ((set2 (set2 hB.out (by omega) _ _) (by omega) _ _)) hb)
          clear hb hB hS c0 c1 c2 c3 c4 c5 c6 c7 c8 c9 c10 c11 f0 f1 f2 f3 f4 f5 f6 f7
          obtain ⟨c0, c1, c2, c3, c4, c5, c6, c7, c8, c9, c10, c11, f0, f1, f2, f3, f4, f5, f6, f7⟩ := S1.out
          go_wp2_with fail
          go_roundw
          case rel =>
            have h := HR.out
            have hb := HBb.out
            obtain ⟨hd0, hd1⟩ := HD.out
            have c : D ≤ 2 * R + b := by unfold hiW at ct; omega
            have e : (2 * R + b - D) % 340282366920938463463374607431768211456 = 2 * R + b - D := by omega
            refine ⟨k - 1, 2 * Q + 1, (2 * R + b - D) % 340282366920938463463374607431768211456, by omega, by congr 1; omega, hideR ?_, by rw [e]; exact hideR (HM.out.1 c), hideR ?_⟩
            · rw [HX4.out]
              exact st_ql (st_r S1.out _ _) _
            · exact Below.setCell (set2 hB1.out (by omega) _ _) (show w.heap.size ≤ w.heap.size + 1 + 1 + 1 + 1 by omega) _
          case measure => simp [intOf]; omega
        · have HC := hideR ct
          by_cases cb : ((2 * R + b) % 340282366920938463463374607431768211456) < D
          · have HBt : Hid (∀ w, Calls Tryz.prog 152 #[wv ((2 * R + b) % 340282366920938463463374607431768211456), wv D] w fun e w' => e = .returned (.bool true) ∧ Below w.heap.size w w') := by
              show ∀ w, _
              intro w
              have := HBl.out ((2 * R + b) % 340282366920938463463374607431768211456) w
              rw [decide_eq_true cb] at this
              exact this
            have HCB := hideR cb
            clear cb
            go_wp2_with fail
            refine (HBt.out _).mono ?_
            rintro e w0 ⟨rfl, hb⟩
            have S0 := hideR (st_below (st_q (st_r hS.out _ _) _ _) hb)
            have hB0 := hideR (beyond (set2 (set2 hB.out (by omega) _ _) (by omega) _ _) hb)
            clear hb hB hS c0 c1 c2 c3 c4 c5 c6 c7 c8 c9 c10 c11 f0 f1 f2 f3 f4 f5 f6 f7
            obtain ⟨c0, c1, c2, c3, c4, c5, c6, c7, c8, c9, c10, c11, f0, f1, f2, f3, f4, f5, f6, f7⟩ := S0.out
            go_wp2_with fail
            go_roundw
            case rel =>
              have h := HR.out
              have hb := HBb.out
              have ct := HC.out
              have hd := HD.out
              have e : ((2 * R + b) % 340282366920938463463374607431768211456) = 2 * R + b := by unfold hiW at ct; omega
              refine ⟨k - 1, 2 * Q, ((2 * R + b) % 340282366920938463463374607431768211456), by omega, by congr 1; omega, S0, ?_, hB0⟩
              have cb := HCB.out
              rw [e] at cb ⊢
              exact hideR (HM.out.2 cb)
            case measure => simp [intOf]; omega
          · have HBt : Hid (∀ w, Calls Tryz.prog 152 #[wv ((2 * R + b) % 340282366920938463463374607431768211456), wv D] w fun e w' => e = .returned (.bool false) ∧ Below w.heap.size w w') := by
              show ∀ w, _
              intro w
              have := HBl.out ((2 * R + b) % 340282366920938463463374607431768211456) w
              rw [decide_eq_false cb] at this
              exact this
            have HCB := hideR cb
            clear cb
            go_wp2_with fail
            refine (HBt.out _).mono ?_
            rintro e w0 ⟨rfl, hb⟩
            have S0 := hideR (st_below (st_q (st_r hS.out _ _) _ _) hb)
            have hB0 := hideR (beyond (set2 (set2 hB.out (by omega) _ _) (by omega) _ _) hb)
            clear hb hB hS c0 c1 c2 c3 c4 c5 c6 c7 c8 c9 c10 c11 f0 f1 f2 f3 f4 f5 f6 f7
            obtain ⟨c0, c1, c2, c3, c4, c5, c6, c7, c8, c9, c10, c11, f0, f1, f2, f3, f4, f5, f6, f7⟩ := S0.out
            go_wp2_with fail
            refine (HMi.out ((2 * R + b) % 340282366920938463463374607431768211456) _ ⟨by omega, by omega⟩).mono ?_
            rintro e w1 ⟨rfl, hb⟩
            have S1 := hideR (st_below S0.out hb)
            have hB1 := hideR (beyond (hB0.out) hb)
            clear hb hB0 S0 c0 c1 c2 c3 c4 c5 c6 c7 c8 c9 c10 c11 f0 f1 f2 f3 f4 f5 f6 f7
            obtain ⟨c0, c1, c2, c3, c4, c5, c6, c7, c8, c9, c10, c11, f0, f1, f2, f3, f4, f5, f6, f7⟩ := S1.out
            go_wp2_with fail
            go_roundw
            case rel =>
              have h := HR.out
              have hb := HBb.out
              obtain ⟨hd0, hd1⟩ := HD.out
              have c : D ≤ 2 * R + b := by have cb := HCB.out; have ct := HC.out; unfold hiW at ct; omega
              have e : (2 * R + b - D) % 340282366920938463463374607431768211456 = 2 * R + b - D := by omega
              refine ⟨k - 1, 2 * Q + 1, (2 * R + b - D) % 340282366920938463463374607431768211456, by omega, by congr 1; omega, hideR ?_, by rw [e]; exact hideR (HM.out.1 c), hideR ?_⟩
              · rw [HX4.out]
                exact st_ql (st_r S1.out _ _) _
              · exact Below.setCell (set2 hB1.out (by omega) _ _) (show w.heap.size ≤ w.heap.size + 1 + 1 + 1 + 1 by omega) _
            case measure => simp [intOf]; omega
      · have e1 := el (by omega)
        clear eh el
        by_cases ct : hiW R / 9223372036854775808 = 1
        · go_wp2_with fail
          refine (HMi.out ((2 * R + b) % 340282366920938463463374607431768211456) _ ⟨by omega, by omega⟩).mono ?_
          rintro e w1 ⟨rfl, hb⟩
          have S1 := hideR (st_below (st_q (st_r hS.out _ _) _ _) hb)
          have hB1 := hideR (beyond ((set2 (set2 hB.out (by omega) _ _) (by omega) _ _)) hb)
          clear hb hB hS c0 c1 c2 c3 c4 c5 c6 c7 c8 c9 c10 c11 f0 f1 f2 f3 f4 f5 f6 f7
          obtain ⟨c0, c1, c2, c3, c4, c5, c6, c7, c8, c9, c10, c11, f0, f1, f2, f3, f4, f5, f6, f7⟩ := S1.out
          go_wp2_with fail
          go_roundw
          case rel =>
            have h := HR.out
            have hb := HBb.out
            obtain ⟨hd0, hd1⟩ := HD.out
            have c : D ≤ 2 * R + b := by unfold hiW at ct; omega
            have e : (2 * R + b - D) % 340282366920938463463374607431768211456 = 2 * R + b - D := by omega
            refine ⟨k - 1, 2 * Q + 1, (2 * R + b - D) % 340282366920938463463374607431768211456, by omega, by congr 1; omega, hideR ?_, by rw [e]; exact hideR (HM.out.1 c), hideR ?_⟩
            · rw [HX4.out]
              exact st_ql (st_r S1.out _ _) _
            · exact Below.setCell (set2 hB1.out (by omega) _ _) (show w.heap.size ≤ w.heap.size + 1 + 1 + 1 + 1 by omega) _
          case measure => simp [intOf]; omega
        · have HC := hideR ct
          by_cases cb : ((2 * R + b) % 340282366920938463463374607431768211456) < D
          · have HBt : Hid (∀ w, Calls Tryz.prog 152 #[wv ((2 * R + b) % 340282366920938463463374607431768211456), wv D] w fun e w' => e = .returned (.bool true) ∧ Below w.heap.size w w') := by
              show ∀ w, _
              intro w
              have := HBl.out ((2 * R + b) % 340282366920938463463374607431768211456) w
              rw [decide_eq_true cb] at this
              exact this
            have HCB := hideR cb
            clear cb
            go_wp2_with fail
            refine (HBt.out _).mono ?_
            rintro e w0 ⟨rfl, hb⟩
            have S0 := hideR (st_below (st_q (st_r hS.out _ _) _ _) hb)
            have hB0 := hideR (beyond (set2 (set2 hB.out (by omega) _ _) (by omega) _ _) hb)
            clear hb hB hS c0 c1 c2 c3 c4 c5 c6 c7 c8 c9 c10 c11 f0 f1 f2 f3 f4 f5 f6 f7
            obtain ⟨c0, c1, c2, c3, c4, c5, c6, c7, c8, c9, c10, c11, f0, f1, f2, f3, f4, f5, f6, f7⟩ := S0.out
            go_wp2_with fail
            go_roundw
            case rel =>
              have h := HR.out
              have hb := HBb.out
              have ct := HC.out
              have hd := HD.out
              have e : ((2 * R + b) % 340282366920938463463374607431768211456) = 2 * R + b := by unfold hiW at ct; omega
              refine ⟨k - 1, 2 * Q, ((2 * R + b) % 340282366920938463463374607431768211456), by omega, by congr 1; omega, S0, ?_, hB0⟩
              have cb := HCB.out
              rw [e] at cb ⊢
              exact hideR (HM.out.2 cb)
            case measure => simp [intOf]; omega
          · have HBt : Hid (∀ w, Calls Tryz.prog 152 #[wv ((2 * R + b) % 340282366920938463463374607431768211456), wv D] w fun e w' => e = .returned (.bool false) ∧ Below w.heap.size w w') := by
              show ∀ w, _
              intro w
              have := HBl.out ((2 * R + b) % 340282366920938463463374607431768211456) w
              rw [decide_eq_false cb] at this
              exact this
            have HCB := hideR cb
            clear cb
            go_wp2_with fail
            refine (HBt.out _).mono ?_
            rintro e w0 ⟨rfl, hb⟩
            have S0 := hideR (st_below (st_q (st_r hS.out _ _) _ _) hb)
            have hB0 := hideR (beyond (set2 (set2 hB.out (by omega) _ _) (by omega) _ _) hb)
            clear hb hB hS c0 c1 c2 c3 c4 c5 c6 c7 c8 c9 c10 c11 f0 f1 f2 f3 f4 f5 f6 f7
            obtain ⟨c0, c1, c2, c3, c4, c5, c6, c7, c8, c9, c10, c11, f0, f1, f2, f3, f4, f5, f6, f7⟩ := S0.out
            go_wp2_with fail
            refine (HMi.out ((2 * R + b) % 340282366920938463463374607431768211456) _ ⟨by omega, by omega⟩).mono ?_
            rintro e w1 ⟨rfl, hb⟩
            have S1 := hideR (st_below S0.out hb)
            have hB1 := hideR (beyond (hB0.out) hb)
            clear hb hB0 S0 c0 c1 c2 c3 c4 c5 c6 c7 c8 c9 c10 c11 f0 f1 f2 f3 f4 f5 f6 f7
            obtain ⟨c0, c1, c2, c3, c4, c5, c6, c7, c8, c9, c10, c11, f0, f1, f2, f3, f4, f5, f6, f7⟩ := S1.out
            go_wp2_with fail
            go_roundw
            case rel =>
              have h := HR.out
              have hb := HBb.out
              obtain ⟨hd0, hd1⟩ := HD.out
              have c : D ≤ 2 * R + b := by have cb := HCB.out; have ct := HC.out; unfold hiW at ct; omega
              have e : (2 * R + b - D) % 340282366920938463463374607431768211456 = 2 * R + b - D := by omega
              refine ⟨k - 1, 2 * Q + 1, (2 * R + b - D) % 340282366920938463463374607431768211456, by omega, by congr 1; omega, hideR ?_, by rw [e]; exact hideR (HM.out.1 c), hideR ?_⟩
              · rw [HX4.out]
                exact st_ql (st_r S1.out _ _) _
              · exact Below.setCell (set2 hB1.out (by omega) _ _) (show w.heap.size ≤ w.heap.size + 1 + 1 + 1 + 1 by omega) _
            case measure => simp [intOf]; omega
end Go.Proofs.YtondgencdcimjaaGreat

/-
  The contracts of the document's greatest common divisor and of its Right.
-/
namespace Go.Proofs.YtondgencdcimjaaGreat
open Go.RowKit Go.Shelf
set_option linter.unusedVariables false
def CS (W : World) (s : Nat) (xh xl yh yl : Int) : Prop := W.cell? ⟨s, 0, none⟩ = some (.int .u64 xh) ∧ W.cell? ⟨s, 1, none⟩ = some (.int .u64 xl) ∧ W.cell? ⟨s + 1, 0, none⟩ = some (.int .u64 yh) ∧ W.cell? ⟨s + 1, 1, none⟩ = some (.int .u64 yl) ∧ W.cell? ⟨s + 1 + 1, 0, none⟩ = some (.int .u64 0) ∧ W.cell? ⟨s + 1 + 1, 1, none⟩ = some (.int .u64 0) ∧ W.frozen? ⟨s, 0, none⟩ = false ∧ W.frozen? ⟨s, 1, none⟩ = false ∧ W.frozen? ⟨s + 1, 0, none⟩ = false ∧ W.frozen? ⟨s + 1, 1, none⟩ = false ∧ W.frozen? ⟨s + 1 + 1, 0, none⟩ = false ∧ W.frozen? ⟨s + 1 + 1, 1, none⟩ = false
theorem cs_below {W W' : World} {s : Nat} {xh xl yh yl : Int} (h : CS W s xh xl yh yl) (hb : Below W.heap.size W W') : CS W' s xh xl yh yl := by
  obtain ⟨c0, c1, c2, c3, c4, c5, f0, f1, f2, f3, f4, f5⟩ := h
  exact ⟨kc _ _ hb c0, kc _ _ hb c1, kc _ _ hb c2, kc _ _ hb c3, kc _ _ hb c4, kc _ _ hb c5, kf _ _ hb c0 f0, kf _ _ hb c1 f1, kf _ _ hb c2 f2, kf _ _ hb c3 f3, kf _ _ hb c4 f4, kf _ _ hb c5 f5⟩
theorem cs_set {W : World} {s : Nat} {xh xl yh yl : Int} (h : CS W s xh xl yh yl) (a b c d : Int) : CS ((((W.setCell ⟨s, 0, none⟩ (.int .u64 a)).setCell ⟨s, 1, none⟩ (.int .u64 b)).setCell ⟨s + 1, 0, none⟩ (.int .u64 c)).setCell ⟨s + 1, 1, none⟩ (.int .u64 d)) s a b c d := by
  obtain ⟨c0, c1, c2, c3, c4, c5, f0, f1, f2, f3, f4, f5⟩ := h
  have m1 : ¬ s = s + 1 + 1 := by omega
  have m2 : ¬ s + 1 + 1 = s := by omega
  unfold CS
  simp [go_sem, *]
def wideAt (W : World) (b : Nat) : Nat := (intOf ((W.cell? ⟨b, 0, none⟩).getD undef) * 18446744073709551616 + intOf ((W.cell? ⟨b, 1, none⟩).getD undef)).toNat
theorem wideAt_of {W : World} {s : Nat} {xh xl : Int} {Y : Int} (h : CS W s xh xl (hiW Y) (loW Y)) : wideAt W (s + 1) = Y.toNat := by
  obtain ⟨c0, c1, c2, c3, c4, c5, f0, f1, f2, f3, f4, f5⟩ := h
  unfold wideAt
  rw [c2, c3]
  have := hilo Y
  simp [intOf]
  omega
theorem gcdI_bd0 (a b : Int) : 0 ≤ gcdI a b := by unfold gcdI; omega
set_option maxRecDepth 100000 in
set_option maxHeartbeats 8000000 in
theorem xcommon_any (M N : Int) (w : World) (hM : U128 M) (hN : U128 N) :
    Calls Tryz.prog 110 #[wv M, wv N] w fun e w' => e = .returned (wv (gcdI M N)) ∧ Below w.heap.size w w' := by
  have HD : Hid (∀ X Y w, U128 X → U128 Y → 0 < Y → Calls Tryz.prog 149 #[wv X, wv Y] w fun e w' => e = .returned (.tuple #[wv (X / Y), wv (X % Y)]) ∧ Below w.heap.size w w') := hideR (fun X Y w h1 h2 h3 => xdivide_any X Y w h1 h2 h3)
  have m1 : ¬ w.heap.size = w.heap.size + 1 + 1 := by omega
  have m2 : ¬ w.heap.size + 1 + 1 = w.heap.size := by omega
  have HM := hideR hM
  have HN := hideR hN
  clear hM hN
  go_enter Tryz.func110, Tryz.ntmps110
  go_wp2_with fail
  go_loopw [7] (fun s wr => ∃ X Y : Int, Hid (U128 X) ∧ Hid (U128 Y) ∧ Hid (CS wr w.heap.size (hiW X) (loW X) (hiW Y) (loW Y)) ∧ Hid (gcdI X Y = gcdI M N) ∧ Hid (Below w.heap.size w wr)) (fun _ wr => wideAt wr (w.heap.size + 1))
  case atStart =>
    refine ⟨M, N, HM, HN, hideR ?_, hideR rfl, hideR (three w _ _ _)⟩
    unfold CS
    simp [go_sem]
  case round =>
    obtain ⟨X, Y, hX, hY, hS, hG, hB⟩ := hrel
    have HWm := hideR (wideAt_of hS.out)
    obtain ⟨c0, c1, c2, c3, c4, c5, f0, f1, f2, f3, f4, f5⟩ := hS.out
    by_cases y0 : Y = 0
    · subst y0
      have e : gcdI M N = X := by rw [← hG.out, gcdI_zero X hX.out.1]
      have HE := hideR e
      have z1 : hiW 0 = 0 := by decide
      have z2 : loW 0 = 0 := by decide
      rw [z1] at c2
      rw [z2] at c3
      clear hG HD hS HWm e z1 z2
      go_wp2_with fail
      refine bodyPost_ret (v := wv X) (by simp [results, Tryz.results110, go_sem, *]) rfl ⟨by rw [HE.out], ?_⟩
      first | exact set2 hB.out (by omega) _ _ | exact hB.out
    · have p : 0 < Y := by have := hY.out.1; omega
      have HP := hideR p
      have r0 := Int.emod_nonneg X y0
      have r1 := Int.emod_lt_of_pos X p
      have HR : Hid (0 ≤ X % Y ∧ X % Y < Y) := hideR ⟨r0, r1⟩
      have hyl := hilo Y
      have hG2 : Hid (gcdI Y (X % Y) = gcdI M N) := by show gcdI Y (X % Y) = gcdI M N; rw [gcdI_step X Y hX.out.1 p]; exact hG.out
      clear hG r0 r1 p
      by_cases h0 : hiW Y = 0
      · have l0 : ¬ loW Y = 0 := by omega
        clear hyl y0 h0
        go_wp2_with fail
        refine (HD.out X Y _ hX.out hY.out HP.out).mono ?_
        rintro e w1 ⟨rfl, hb⟩
        have S1 := cs_below hS.out hb
        have HS2 : CS ((w1.alloc (.cells #[.int .u64 (hiW (X / Y)), .int .u64 (loW (X / Y))] 165)).alloc (.cells #[.int .u64 (hiW (X % Y)), .int .u64 (loW (X % Y))] 165)) w.heap.size (hiW X) (loW X) (hiW Y) (loW Y) := cs_below S1 (two w1 _ _)
        have hB2 : Below w.heap.size w ((w1.alloc (.cells #[.int .u64 (hiW (X / Y)), .int .u64 (loW (X / Y))] 165)).alloc (.cells #[.int .u64 (hiW (X % Y)), .int .u64 (loW (X % Y))] 165)) := beyond (beyond hB.out hb) (two w1 _ _)
        have d0 : ((w1.alloc (.cells #[.int .u64 (hiW (X / Y)), .int .u64 (loW (X / Y))] 165)).alloc (.cells #[.int .u64 (hiW (X % Y)), .int .u64 (loW (X % Y))] 165)).cell? ⟨w1.heap.size + 1, 0, none⟩ = some (.int .u64 (hiW (X % Y))) := newC2 w1 _ _ _ 0
        have d1 : ((w1.alloc (.cells #[.int .u64 (hiW (X / Y)), .int .u64 (loW (X / Y))] 165)).alloc (.cells #[.int .u64 (hiW (X % Y)), .int .u64 (loW (X % Y))] 165)).cell? ⟨w1.heap.size + 1, 1, none⟩ = some (.int .u64 (loW (X % Y))) := newC2 w1 _ _ _ 1
        have l1 : w.heap.size + 1 + 1 < w1.heap.size := by obtain ⟨c0, c1, c2, c3, c4, c5, f0, f1, f2, f3, f4, f5⟩ := S1; exact World.block_lt_of_cell? _ _ c4
        have HB1 := hideR hB2
        have HS3 := hideR HS2
        clear hb hB hS S1 hB2 HS2 c0 c1 c2 c3 c4 c5 f0 f1 f2 f3 f4 f5 m1 m2 HD hX
        go_upto_region 3 with (fail)
        generalize ((w1.alloc (.cells #[.int .u64 (hiW (X / Y)), .int .u64 (loW (X / Y))] 165)).alloc (.cells #[.int .u64 (hiW (X % Y)), .int .u64 (loW (X % Y))] 165)) = W at *
        have n1 : ¬ w1.heap.size + 1 = w.heap.size := by omega
        have n2 : ¬ w1.heap.size + 1 = w.heap.size + 1 := by omega
        have n3 : ¬ w.heap.size = w1.heap.size + 1 := by omega
        have n4 : ¬ w.heap.size + 1 = w1.heap.size + 1 := by omega
        clear l1
        generalize w1.heap.size + 1 = br at *
        obtain ⟨c0, c1, c2, c3, c4, c5, f0, f1, f2, f3, f4, f5⟩ := HS3.out
        clear c4 c5 f4 f5
        go_wp2_with fail
        go_roundw
        case rel => exact ⟨Y, X % Y, hY, hideR ⟨HR.out.1, by have := HR.out.2; have := hY.out.2; omega⟩, hideR (cs_set HS3.out _ _ _ _), hG2, hideR (set2 (set2 HB1.out (by omega) _ _) (by omega) _ _)⟩
        case measure =>
          have a := wideAt_of (cs_set HS3.out (hiW Y) (loW Y) (hiW (X % Y)) (loW (X % Y)))
          have b := HWm.out
          have c := HR.out
          rw [a, b]
          omega
      · clear hyl y0
        go_wp2_with fail
        refine (HD.out X Y _ hX.out hY.out HP.out).mono ?_
        rintro e w1 ⟨rfl, hb⟩
        have S1 := cs_below hS.out hb
        have HS2 : CS ((w1.alloc (.cells #[.int .u64 (hiW (X / Y)), .int .u64 (loW (X / Y))] 165)).alloc (.cells #[.int .u64 (hiW (X % Y)), .int .u64 (loW (X % Y))] 165)) w.heap.size (hiW X) (loW X) (hiW Y) (loW Y) := cs_below S1 (two w1 _ _)
        have hB2 : Below w.heap.size w ((w1.alloc (.cells #[.int .u64 (hiW (X / Y)), .int .u64 (loW (X / Y))] 165)).alloc (.cells #[.int .u64 (hiW (X % Y)), .int .u64 (loW (X % Y))] 165)) := beyond (beyond hB.out hb) (two w1 _ _)
        have d0 : ((w1.alloc (.cells #[.int .u64 (hiW (X / Y)), .int .u64 (loW (X / Y))] 165)).alloc (.cells #[.int .u64 (hiW (X % Y)), .int .u64 (loW (X % Y))] 165)).cell? ⟨w1.heap.size + 1, 0, none⟩ = some (.int .u64 (hiW (X % Y))) := newC2 w1 _ _ _ 0
        have d1 : ((w1.alloc (.cells #[.int .u64 (hiW (X / Y)), .int .u64 (loW (X / Y))] 165)).alloc (.cells #[.int .u64 (hiW (X % Y)), .int .u64 (loW (X % Y))] 165)).cell? ⟨w1.heap.size + 1, 1, none⟩ = some (.int .u64 (loW (X % Y))) := newC2 w1 _ _ _ 1
        have l1 : w.heap.size + 1 + 1 < w1.heap.size := by obtain ⟨c0, c1, c2, c3, c4, c5, f0, f1, f2, f3, f4, f5⟩ := S1; exact World.block_lt_of_cell? _ _ c4
        have HB1 := hideR hB2
        have HS3 := hideR HS2
        clear hb hB hS S1 hB2 HS2 c0 c1 c2 c3 c4 c5 f0 f1 f2 f3 f4 f5 m1 m2 HD hX
        go_upto_region 3 with (fail)
        generalize ((w1.alloc (.cells #[.int .u64 (hiW (X / Y)), .int .u64 (loW (X / Y))] 165)).alloc (.cells #[.int .u64 (hiW (X % Y)), .int .u64 (loW (X % Y))] 165)) = W at *
        have n1 : ¬ w1.heap.size + 1 = w.heap.size := by omega
        have n2 : ¬ w1.heap.size + 1 = w.heap.size + 1 := by omega
        have n3 : ¬ w.heap.size = w1.heap.size + 1 := by omega
        have n4 : ¬ w.heap.size + 1 = w1.heap.size + 1 := by omega
        clear l1
        generalize w1.heap.size + 1 = br at *
        obtain ⟨c0, c1, c2, c3, c4, c5, f0, f1, f2, f3, f4, f5⟩ := HS3.out
        clear c4 c5 f4 f5
        go_wp2_with fail
        go_roundw
        case rel => exact ⟨Y, X % Y, hY, hideR ⟨HR.out.1, by have := HR.out.2; have := hY.out.2; omega⟩, hideR (cs_set HS3.out _ _ _ _), hG2, hideR (set2 (set2 HB1.out (by omega) _ _) (by omega) _ _)⟩
        case measure =>
          have a := wideAt_of (cs_set HS3.out (hiW Y) (loW Y) (hiW (X % Y)) (loW (X % Y)))
          have b := HWm.out
          have c := HR.out
          rw [a, b]
          omega
theorem size_pos (d : Int) (w : World) (d0 : 0 ≤ d) (d1 : d ≤ 9223372036854775807) : IntKind.u64.wrap d = d := sz_pos_eq d d0 d1
set_option maxRecDepth 100000 in
set_option maxHeartbeats 4000000 in
theorem xright_any (n d : Int) (w : World) (hn : I64 n) (hd : I64 d) :
    Calls Tryz.prog 39 #[rv n d] w fun e w' => e = .returned (.bool (rightR n d)) ∧ Below w.heap.size w w' := by
  have bn := sz_bd n hn.1 hn.2
  by_cases c : 0 < d
  · have wd : IntKind.u64.wrap d = d := sz_pos_eq d (by omega) hd.2
    have g0 := gcdI_bd0 (sz n) d
    have g1 := gcdI_le_right (sz n) d c
    have e : rightR n d = decide (gcdI (sz n) d = 1) := by
      simp only [rightR, c, decide_true, Bool.true_and, sz_pos (Int.le_of_lt c)]
      rfl
    have eh : hiW (gcdI (sz n) d) = 0 := hi_small g0 (by have := hd.2; omega)
    have el : loW (gcdI (sz n) d) = gcdI (sz n) d := lo_small g0 (by have := hd.2; omega)
    have HS : Hid (∀ w, Calls Tryz.prog 111 #[.int .i64 n] w fun e w' => e = .returned (.int .u64 (sz n)) ∧ w' = w) := hideR (fun w => xsize_any n w hn.1 hn.2)
    have HC : Hid (∀ w, Calls Tryz.prog 110 #[.agg #[.int .u64 0, .int .u64 (sz n)], .agg #[.int .u64 0, .int .u64 d]] w fun e w' => e = .returned (.agg #[.int .u64 0, .int .u64 (gcdI (sz n) d)]) ∧ Below w.heap.size w w') := by
      show ∀ w, _
      intro w
      have h := xcommon_any (sz n) d w ⟨bn.1, by omega⟩ ⟨by omega, by have := hd.2; omega⟩
      unfold wv at h
      rw [hi_small bn.1 (by omega), lo_small bn.1 (by omega), hi_small (show 0 ≤ d by omega) (by have := hd.2; omega), lo_small (show 0 ≤ d by omega) (by have := hd.2; omega), eh, el] at h
      exact h
    rw [e]
    clear e eh el g0 g1 bn hn hd
    generalize gcdI (sz n) d = G at *
    generalize sz n = x at *
    by_cases hG : G = 1
    · subst hG
      go_enter Tryz.func39, Tryz.ntmps39
      go_wp2
      go_region_held3 (fun w' => w'.cell? ⟨w.heap.size, 0, none⟩ = some (.int .i64 n) ∧ w'.cell? ⟨w.heap.size, 1, none⟩ = some (.int .i64 d))
        (first | exact ⟨by first | assumption | simp [go_sem], by first | assumption | simp [go_sem]⟩ | go_keep)
        (first
          | (go_at_call 111; refine (HS.out _).mono ?_; rintro e' w' ⟨rfl, rfl⟩)
          | (go_at_call 110; refine (HC.out _).mono ?_; rintro e' w' ⟨rfl, hb⟩; have v0 := kc ⟨w.heap.size, 0, none⟩ (.int .i64 n) hb (by first | assumption | simp [go_sem]); have v1 := kc ⟨w.heap.size, 1, none⟩ (.int .i64 d) hb (by first | assumption | simp [go_sem]); have hX := beyond (w := w) (by first | exact Below.drew (single _ _) | exact below_drewN (single _ _) _ | exact single _ _) hb))
      all_goals go_wp2
      all_goals go_ret
      all_goals exact ⟨rfl, by assumption⟩
    · have eG : decide (G = 1) = false := by simpa using hG
      rw [eG]
      clear eG
      go_enter Tryz.func39, Tryz.ntmps39
      go_wp2
      go_region_held3 (fun w' => w'.cell? ⟨w.heap.size, 0, none⟩ = some (.int .i64 n) ∧ w'.cell? ⟨w.heap.size, 1, none⟩ = some (.int .i64 d))
        (first | exact ⟨by first | assumption | simp [go_sem], by first | assumption | simp [go_sem]⟩ | go_keep)
        (first
          | (go_at_call 111; refine (HS.out _).mono ?_; rintro e' w' ⟨rfl, rfl⟩)
          | (go_at_call 110; refine (HC.out _).mono ?_; rintro e' w' ⟨rfl, hb⟩; have v0 := kc ⟨w.heap.size, 0, none⟩ (.int .i64 n) hb (by first | assumption | simp [go_sem]); have v1 := kc ⟨w.heap.size, 1, none⟩ (.int .i64 d) hb (by first | assumption | simp [go_sem]); have hX := beyond (w := w) (by first | exact Below.drew (single _ _) | exact below_drewN (single _ _) _ | exact single _ _) hb))
      all_goals go_wp2
      all_goals go_ret
      all_goals exact ⟨rfl, by assumption⟩
  · have e : rightR n d = false := by simp [rightR, c]
    rw [e]
    have c' : decide (0 < d) = false := by simpa using c
    clear e bn hn hd c
    go_enter Tryz.func39, Tryz.ntmps39
    go_wp2
    go_quiet (fail)
    go_wp2
    go_ret
    exact ⟨rfl, below_drewN (single _ _) _⟩
end Go.Proofs.YtondgencdcimjaaGreat

/-
  The contracts of the document's held and New.
-/
namespace Go.Proofs.YtondgencdcimjaaGreat
open Go.RowKit Go.Shelf
set_option linter.unusedVariables false
def moreOf (g : Bool) : Int := if g then 9223372036854775808 else 9223372036854775807
set_option maxRecDepth 100000 in
theorem xheld_zero (g : Bool) (ph pl : Int) (w : World) :
    Calls Tryz.prog 133 #[.bool g, .agg #[.int .u64 ph, .int .u64 pl], .agg #[.int .u64 0, .int .u64 0]] w fun e w' => e = .returned (trip (0, 0, 21)) ∧ Below w.heap.size w w' := by
  have n1 : ¬ w.heap.size = w.heap.size + 1 + 1 := by omega
  have n2 : ¬ w.heap.size + 1 + 1 = w.heap.size := by omega
  go_enter Tryz.func133, Tryz.ntmps133
  go_wp2_with fail
  refine bodyPost_ret (v := trip (0, 0, 21)) (by simp [results, Tryz.results133, go_sem, *]) rfl ⟨rfl, ?_⟩
  first | exact three w _ _ _ | exact set2 (three w _ _ _) (by omega) _ _
set_option maxRecDepth 100000 in
set_option maxHeartbeats 8000000 in
theorem xheld_h_false_f1 (ph pl qh ql gh gl ah al bh bl xh xl yh yl : Int) (w : World) (hq : ¬ qh = 0) (hc : ¬ ah = 0)
    (HC : Hid (∀ w, Calls Tryz.prog 110 #[.agg #[.int .u64 ph, .int .u64 pl], .agg #[.int .u64 qh, .int .u64 ql]] w fun e w' => e = .returned (.agg #[.int .u64 gh, .int .u64 gl]) ∧ Below w.heap.size w w'))
    (HD1 : Hid (∀ w, Calls Tryz.prog 149 #[.agg #[.int .u64 ph, .int .u64 pl], .agg #[.int .u64 gh, .int .u64 gl]] w fun e w' => e = .returned (.tuple #[.agg #[.int .u64 ah, .int .u64 al], .agg #[.int .u64 xh, .int .u64 xl]]) ∧ Below w.heap.size w w'))
    (HD2 : Hid (∀ w, Calls Tryz.prog 149 #[.agg #[.int .u64 qh, .int .u64 ql], .agg #[.int .u64 gh, .int .u64 gl]] w fun e w' => e = .returned (.tuple #[.agg #[.int .u64 bh, .int .u64 bl], .agg #[.int .u64 yh, .int .u64 yl]]) ∧ Below w.heap.size w w')) :
    Calls Tryz.prog 133 #[.bool false, .agg #[.int .u64 ph, .int .u64 pl], .agg #[.int .u64 qh, .int .u64 ql]] w fun e w' => e = .returned (trip (0, 0, 20)) ∧ Below w.heap.size w w' := by
  have n1 : ¬ w.heap.size = w.heap.size + 1 + 1 := by omega
  have n2 : ¬ w.heap.size + 1 + 1 = w.heap.size := by omega
  go_enter Tryz.func133, Tryz.ntmps133
  go_wp2_with fail
  refine (HC.out _).mono ?_
  rintro e w1 ⟨rfl, hb⟩
  have s0 := kc ⟨w.heap.size, 0, none⟩ (.int .u64 ph) hb (by first | assumption | simp [go_sem, *])
  have s1 := kc ⟨w.heap.size, 1, none⟩ (.int .u64 pl) hb (by first | assumption | simp [go_sem, *])
  have s2 := kc ⟨w.heap.size + 1, 0, none⟩ (.int .u64 qh) hb (by first | assumption | simp [go_sem, *])
  have s3 := kc ⟨w.heap.size + 1, 1, none⟩ (.int .u64 ql) hb (by first | assumption | simp [go_sem, *])
  have s4 := kc ⟨w.heap.size + 1 + 1, 0, none⟩ (.int .i64 0) hb (by first | assumption | simp [go_sem, *])
  have s5 := kc ⟨w.heap.size + 1 + 1, 1, none⟩ (.int .i64 0) hb (by first | assumption | simp [go_sem, *])
  have sf0 := kf ⟨w.heap.size + 1 + 1, 0, none⟩ (.int .i64 0) hb (by first | assumption | simp [go_sem, *]) (by first | assumption | simp [go_sem, *])
  have sf1 := kf ⟨w.heap.size + 1 + 1, 1, none⟩ (.int .i64 0) hb (by first | assumption | simp [go_sem, *]) (by first | assumption | simp [go_sem, *])
  have hB1 : Below w.heap.size w w1 := beyond (three w _ _ _) hb
  clear hb
  have l1 : w.heap.size + 1 + 1 < w1.heap.size := World.block_lt_of_cell? _ _ s4
  go_upto_region 4 with (fail)
  have t0 : (w1.alloc (.cells #[.int .u64 gh, .int .u64 gl] 165)).cell? ⟨w.heap.size, 0, none⟩ = some (.int .u64 ph) := kc _ _ (single _ _) s0
  have t1 : (w1.alloc (.cells #[.int .u64 gh, .int .u64 gl] 165)).cell? ⟨w.heap.size, 1, none⟩ = some (.int .u64 pl) := kc _ _ (single _ _) s1
  have t2 : (w1.alloc (.cells #[.int .u64 gh, .int .u64 gl] 165)).cell? ⟨w.heap.size + 1, 0, none⟩ = some (.int .u64 qh) := kc _ _ (single _ _) s2
  have t3 : (w1.alloc (.cells #[.int .u64 gh, .int .u64 gl] 165)).cell? ⟨w.heap.size + 1, 1, none⟩ = some (.int .u64 ql) := kc _ _ (single _ _) s3
  have t4 : (w1.alloc (.cells #[.int .u64 gh, .int .u64 gl] 165)).cell? ⟨w.heap.size + 1 + 1, 0, none⟩ = some (.int .i64 0) := kc _ _ (single _ _) s4
  have t5 : (w1.alloc (.cells #[.int .u64 gh, .int .u64 gl] 165)).cell? ⟨w.heap.size + 1 + 1, 1, none⟩ = some (.int .i64 0) := kc _ _ (single _ _) s5
  have tf0 : (w1.alloc (.cells #[.int .u64 gh, .int .u64 gl] 165)).frozen? ⟨w.heap.size + 1 + 1, 0, none⟩ = false := kf _ _ (single _ _) s4 sf0
  have tf1 : (w1.alloc (.cells #[.int .u64 gh, .int .u64 gl] 165)).frozen? ⟨w.heap.size + 1 + 1, 1, none⟩ = false := kf _ _ (single _ _) s5 sf1
  have tg0 : (w1.alloc (.cells #[.int .u64 gh, .int .u64 gl] 165)).cell? ⟨w1.heap.size, 0, none⟩ = some (.int .u64 gh) := new_cell w1 _ _ 0
  have tg1 : (w1.alloc (.cells #[.int .u64 gh, .int .u64 gl] 165)).cell? ⟨w1.heap.size, 1, none⟩ = some (.int .u64 gl) := new_cell w1 _ _ 1
  have hBG : Below w.heap.size w (w1.alloc (.cells #[.int .u64 gh, .int .u64 gl] 165)) := beyond hB1 (single _ _)
  clear s0 s1 s2 s3 s4 s5 sf0 sf1 hB1 HC
  generalize (w1.alloc (.cells #[.int .u64 gh, .int .u64 gl] 165)) = W1 at *
  generalize w1.heap.size = bg at *
  go_wp2_with fail
  refine (HD1.out _).mono ?_
  rintro e w2 ⟨rfl, hb⟩
  have u0 := kc _ _ hb t0
  have u1 := kc _ _ hb t1
  have u2 := kc _ _ hb t2
  have u3 := kc _ _ hb t3
  have u4 := kc _ _ hb t4
  have u5 := kc _ _ hb t5
  have uf0 := kf _ _ hb t4 tf0
  have uf1 := kf _ _ hb t5 tf1
  have ug0 := kc _ _ hb tg0
  have ug1 := kc _ _ hb tg1
  have hB2 : Below w.heap.size w w2 := beyond hBG hb
  clear hb t0 t1 t2 t3 t4 t5 tf0 tf1 tg0 tg1 hBG HD1
  go_upto_region 5 with (fail)
  have v0 : ((w2.alloc (.cells #[.int .u64 ah, .int .u64 al] 165)).alloc (.cells #[.int .u64 xh, .int .u64 xl] 165)).cell? ⟨w.heap.size, 0, none⟩ = some (.int .u64 ph) := kc _ _ (two _ _ _) u0
  have v1 : ((w2.alloc (.cells #[.int .u64 ah, .int .u64 al] 165)).alloc (.cells #[.int .u64 xh, .int .u64 xl] 165)).cell? ⟨w.heap.size, 1, none⟩ = some (.int .u64 pl) := kc _ _ (two _ _ _) u1
  have v2 : ((w2.alloc (.cells #[.int .u64 ah, .int .u64 al] 165)).alloc (.cells #[.int .u64 xh, .int .u64 xl] 165)).cell? ⟨w.heap.size + 1, 0, none⟩ = some (.int .u64 qh) := kc _ _ (two _ _ _) u2
  have v3 : ((w2.alloc (.cells #[.int .u64 ah, .int .u64 al] 165)).alloc (.cells #[.int .u64 xh, .int .u64 xl] 165)).cell? ⟨w.heap.size + 1, 1, none⟩ = some (.int .u64 ql) := kc _ _ (two _ _ _) u3
  have v4 : ((w2.alloc (.cells #[.int .u64 ah, .int .u64 al] 165)).alloc (.cells #[.int .u64 xh, .int .u64 xl] 165)).cell? ⟨w.heap.size + 1 + 1, 0, none⟩ = some (.int .i64 0) := kc _ _ (two _ _ _) u4
  have v5 : ((w2.alloc (.cells #[.int .u64 ah, .int .u64 al] 165)).alloc (.cells #[.int .u64 xh, .int .u64 xl] 165)).cell? ⟨w.heap.size + 1 + 1, 1, none⟩ = some (.int .i64 0) := kc _ _ (two _ _ _) u5
  have vf0 : ((w2.alloc (.cells #[.int .u64 ah, .int .u64 al] 165)).alloc (.cells #[.int .u64 xh, .int .u64 xl] 165)).frozen? ⟨w.heap.size + 1 + 1, 0, none⟩ = false := kf _ _ (two _ _ _) u4 uf0
  have vf1 : ((w2.alloc (.cells #[.int .u64 ah, .int .u64 al] 165)).alloc (.cells #[.int .u64 xh, .int .u64 xl] 165)).frozen? ⟨w.heap.size + 1 + 1, 1, none⟩ = false := kf _ _ (two _ _ _) u5 uf1
  have vg0 : ((w2.alloc (.cells #[.int .u64 ah, .int .u64 al] 165)).alloc (.cells #[.int .u64 xh, .int .u64 xl] 165)).cell? ⟨bg, 0, none⟩ = some (.int .u64 gh) := kc _ _ (two _ _ _) ug0
  have vg1 : ((w2.alloc (.cells #[.int .u64 ah, .int .u64 al] 165)).alloc (.cells #[.int .u64 xh, .int .u64 xl] 165)).cell? ⟨bg, 1, none⟩ = some (.int .u64 gl) := kc _ _ (two _ _ _) ug1
  have vn0 : ((w2.alloc (.cells #[.int .u64 ah, .int .u64 al] 165)).alloc (.cells #[.int .u64 xh, .int .u64 xl] 165)).cell? ⟨w2.heap.size, 0, none⟩ = some (.int .u64 ah) := newC3 w2 _ _ _ 0
  have vn1 : ((w2.alloc (.cells #[.int .u64 ah, .int .u64 al] 165)).alloc (.cells #[.int .u64 xh, .int .u64 xl] 165)).cell? ⟨w2.heap.size, 1, none⟩ = some (.int .u64 al) := newC3 w2 _ _ _ 1
  have hB3 : Below w.heap.size w ((w2.alloc (.cells #[.int .u64 ah, .int .u64 al] 165)).alloc (.cells #[.int .u64 xh, .int .u64 xl] 165)) := beyond hB2 (two _ _ _)
  clear u0 u1 u2 u3 u4 u5 uf0 uf1 ug0 ug1 hB2
  generalize ((w2.alloc (.cells #[.int .u64 ah, .int .u64 al] 165)).alloc (.cells #[.int .u64 xh, .int .u64 xl] 165)) = W2 at *
  generalize w2.heap.size = bn at *
  go_wp2_with fail
  refine (HD2.out _).mono ?_
  rintro e w3 ⟨rfl, hb⟩
  have u4 := kc _ _ hb v4
  have u5 := kc _ _ hb v5
  have uf0 := kf _ _ hb v4 vf0
  have uf1 := kf _ _ hb v5 vf1
  have un0 := kc _ _ hb vn0
  have un1 := kc _ _ hb vn1
  have hB4 : Below w.heap.size w w3 := beyond hB3 hb
  clear hb v0 v1 v2 v3 v4 v5 vf0 vf1 vg0 vg1 vn0 vn1 hB3 HD2 hq
  go_upto_region 6 with (fail)
  have x4 : ((w3.alloc (.cells #[.int .u64 bh, .int .u64 bl] 165)).alloc (.cells #[.int .u64 yh, .int .u64 yl] 165)).cell? ⟨w.heap.size + 1 + 1, 0, none⟩ = some (.int .i64 0) := kc _ _ (two _ _ _) u4
  have x5 : ((w3.alloc (.cells #[.int .u64 bh, .int .u64 bl] 165)).alloc (.cells #[.int .u64 yh, .int .u64 yl] 165)).cell? ⟨w.heap.size + 1 + 1, 1, none⟩ = some (.int .i64 0) := kc _ _ (two _ _ _) u5
  have xf0 : ((w3.alloc (.cells #[.int .u64 bh, .int .u64 bl] 165)).alloc (.cells #[.int .u64 yh, .int .u64 yl] 165)).frozen? ⟨w.heap.size + 1 + 1, 0, none⟩ = false := kf _ _ (two _ _ _) u4 uf0
  have xf1 : ((w3.alloc (.cells #[.int .u64 bh, .int .u64 bl] 165)).alloc (.cells #[.int .u64 yh, .int .u64 yl] 165)).frozen? ⟨w.heap.size + 1 + 1, 1, none⟩ = false := kf _ _ (two _ _ _) u5 uf1
  have xn0 : ((w3.alloc (.cells #[.int .u64 bh, .int .u64 bl] 165)).alloc (.cells #[.int .u64 yh, .int .u64 yl] 165)).cell? ⟨bn, 0, none⟩ = some (.int .u64 ah) := kc _ _ (two _ _ _) un0
  have xn1 : ((w3.alloc (.cells #[.int .u64 bh, .int .u64 bl] 165)).alloc (.cells #[.int .u64 yh, .int .u64 yl] 165)).cell? ⟨bn, 1, none⟩ = some (.int .u64 al) := kc _ _ (two _ _ _) un1
  have xd0 : ((w3.alloc (.cells #[.int .u64 bh, .int .u64 bl] 165)).alloc (.cells #[.int .u64 yh, .int .u64 yl] 165)).cell? ⟨w3.heap.size, 0, none⟩ = some (.int .u64 bh) := newC3 w3 _ _ _ 0
  have xd1 : ((w3.alloc (.cells #[.int .u64 bh, .int .u64 bl] 165)).alloc (.cells #[.int .u64 yh, .int .u64 yl] 165)).cell? ⟨w3.heap.size, 1, none⟩ = some (.int .u64 bl) := newC3 w3 _ _ _ 1
  have hB5 : Below w.heap.size w ((w3.alloc (.cells #[.int .u64 bh, .int .u64 bl] 165)).alloc (.cells #[.int .u64 yh, .int .u64 yl] 165)) := beyond hB4 (two _ _ _)
  clear u4 u5 uf0 uf1 un0 un1 hB4
  generalize ((w3.alloc (.cells #[.int .u64 bh, .int .u64 bl] 165)).alloc (.cells #[.int .u64 yh, .int .u64 yl] 165)) = W3 at *
  generalize w3.heap.size = bd at *
  have y4 : ∀ O, (W3.alloc O).cell? ⟨w.heap.size + 1 + 1, 0, none⟩ = some (.int .i64 0) := fun O => kc _ _ (single _ _) x4
  have y5 : ∀ O, (W3.alloc O).cell? ⟨w.heap.size + 1 + 1, 1, none⟩ = some (.int .i64 0) := fun O => kc _ _ (single _ _) x5
  have yn0 : ∀ O, (W3.alloc O).cell? ⟨bn, 0, none⟩ = some (.int .u64 ah) := fun O => kc _ _ (single _ _) xn0
  have yn1 : ∀ O, (W3.alloc O).cell? ⟨bn, 1, none⟩ = some (.int .u64 al) := fun O => kc _ _ (single _ _) xn1
  have yf0 : ∀ O, (W3.alloc O).frozen? ⟨w.heap.size + 1 + 1, 0, none⟩ = false := fun O => kf _ _ (single _ _) x4 xf0
  have yf1 : ∀ O, (W3.alloc O).frozen? ⟨w.heap.size + 1 + 1, 1, none⟩ = false := fun O => kf _ _ (single _ _) x5 xf1
  have l3 : w.heap.size + 1 + 1 < W3.heap.size := World.block_lt_of_cell? _ _ x4
  have l4 : bn < W3.heap.size := World.block_lt_of_cell? _ _ xn0
  have m1 : ¬ W3.heap.size = w.heap.size + 1 + 1 := by omega
  have m2 : ¬ w.heap.size + 1 + 1 = W3.heap.size := by omega
  have m3 : ¬ W3.heap.size = bn := by omega
  have m4 : ¬ bn = W3.heap.size := by omega
  have HB6 := hideR (show ∀ O, Below w.heap.size w (W3.alloc O) from fun O => beyond hB5 (single _ _))
  have HB5 := hideR hB5
  clear l1 l3 l4 hB5
  go_wp2_with fail
  refine bodyPost_ret (v := trip (0, 0, 20)) (by simp [results, Tryz.results133, go_sem, *]) rfl ⟨rfl, ?_⟩
  first | exact set2 HB5.out (by omega) _ _ | exact set2 (HB6.out _) (by omega) _ _ | exact HB5.out | (refine set2 (Below.setCell (HB6.out _) ?_ _) (by omega) _ _; have := (HB6.out default).size; simp at this; omega) | trace_state
set_option maxRecDepth 100000 in
set_option maxHeartbeats 8000000 in
theorem xheld_h_false_f2 (ph pl qh ql gh gl al bh bl xh xl yh yl : Int) (w : World) (hq : ¬ qh = 0) (hc : 9223372036854775807 < al)
    (HC : Hid (∀ w, Calls Tryz.prog 110 #[.agg #[.int .u64 ph, .int .u64 pl], .agg #[.int .u64 qh, .int .u64 ql]] w fun e w' => e = .returned (.agg #[.int .u64 gh, .int .u64 gl]) ∧ Below w.heap.size w w'))
    (HD1 : Hid (∀ w, Calls Tryz.prog 149 #[.agg #[.int .u64 ph, .int .u64 pl], .agg #[.int .u64 gh, .int .u64 gl]] w fun e w' => e = .returned (.tuple #[.agg #[.int .u64 0, .int .u64 al], .agg #[.int .u64 xh, .int .u64 xl]]) ∧ Below w.heap.size w w'))
    (HD2 : Hid (∀ w, Calls Tryz.prog 149 #[.agg #[.int .u64 qh, .int .u64 ql], .agg #[.int .u64 gh, .int .u64 gl]] w fun e w' => e = .returned (.tuple #[.agg #[.int .u64 bh, .int .u64 bl], .agg #[.int .u64 yh, .int .u64 yl]]) ∧ Below w.heap.size w w')) :
    Calls Tryz.prog 133 #[.bool false, .agg #[.int .u64 ph, .int .u64 pl], .agg #[.int .u64 qh, .int .u64 ql]] w fun e w' => e = .returned (trip (0, 0, 20)) ∧ Below w.heap.size w w' := by
  have n1 : ¬ w.heap.size = w.heap.size + 1 + 1 := by omega
  have n2 : ¬ w.heap.size + 1 + 1 = w.heap.size := by omega
  go_enter Tryz.func133, Tryz.ntmps133
  go_wp2_with fail
  refine (HC.out _).mono ?_
  rintro e w1 ⟨rfl, hb⟩
  have s0 := kc ⟨w.heap.size, 0, none⟩ (.int .u64 ph) hb (by first | assumption | simp [go_sem, *])
  have s1 := kc ⟨w.heap.size, 1, none⟩ (.int .u64 pl) hb (by first | assumption | simp [go_sem, *])
  have s2 := kc ⟨w.heap.size + 1, 0, none⟩ (.int .u64 qh) hb (by first | assumption | simp [go_sem, *])
  have s3 := kc ⟨w.heap.size + 1, 1, none⟩ (.int .u64 ql) hb (by first | assumption | simp [go_sem, *])
  have s4 := kc ⟨w.heap.size + 1 + 1, 0, none⟩ (.int .i64 0) hb (by first | assumption | simp [go_sem, *])
  have s5 := kc ⟨w.heap.size + 1 + 1, 1, none⟩ (.int .i64 0) hb (by first | assumption | simp [go_sem, *])
  have sf0 := kf ⟨w.heap.size + 1 + 1, 0, none⟩ (.int .i64 0) hb (by first | assumption | simp [go_sem, *]) (by first | assumption | simp [go_sem, *])
  have sf1 := kf ⟨w.heap.size + 1 + 1, 1, none⟩ (.int .i64 0) hb (by first | assumption | simp [go_sem, *]) (by first | assumption | simp [go_sem, *])
  have hB1 : Below w.heap.size w w1 := beyond (three w _ _ _) hb
  clear hb
  have l1 : w.heap.size + 1 + 1 < w1.heap.size := World.block_lt_of_cell? _ _ s4
  go_upto_region 4 with (fail)
  have t0 : (w1.alloc (.cells #[.int .u64 gh, .int .u64 gl] 165)).cell? ⟨w.heap.size, 0, none⟩ = some (.int .u64 ph) := kc _ _ (single _ _) s0
  have t1 : (w1.alloc (.cells #[.int .u64 gh, .int .u64 gl] 165)).cell? ⟨w.heap.size, 1, none⟩ = some (.int .u64 pl) := kc _ _ (single _ _) s1
  have t2 : (w1.alloc (.cells #[.int .u64 gh, .int .u64 gl] 165)).cell? ⟨w.heap.size + 1, 0, none⟩ = some (.int .u64 qh) := kc _ _ (single _ _) s2
  have t3 : (w1.alloc (.cells #[.int .u64 gh, .int .u64 gl] 165)).cell? ⟨w.heap.size + 1, 1, none⟩ = some (.int .u64 ql) := kc _ _ (single _ _) s3
  have t4 : (w1.alloc (.cells #[.int .u64 gh, .int .u64 gl] 165)).cell? ⟨w.heap.size + 1 + 1, 0, none⟩ = some (.int .i64 0) := kc _ _ (single _ _) s4
  have t5 : (w1.alloc (.cells #[.int .u64 gh, .int .u64 gl] 165)).cell? ⟨w.heap.size + 1 + 1, 1, none⟩ = some (.int .i64 0) := kc _ _ (single _ _) s5
  have tf0 : (w1.alloc (.cells #[.int .u64 gh, .int .u64 gl] 165)).frozen? ⟨w.heap.size + 1 + 1, 0, none⟩ = false := kf _ _ (single _ _) s4 sf0
  have tf1 : (w1.alloc (.cells #[.int .u64 gh, .int .u64 gl] 165)).frozen? ⟨w.heap.size + 1 + 1, 1, none⟩ = false := kf _ _ (single _ _) s5 sf1
  have tg0 : (w1.alloc (.cells #[.int .u64 gh, .int .u64 gl] 165)).cell? ⟨w1.heap.size, 0, none⟩ = some (.int .u64 gh) := new_cell w1 _ _ 0
  have tg1 : (w1.alloc (.cells #[.int .u64 gh, .int .u64 gl] 165)).cell? ⟨w1.heap.size, 1, none⟩ = some (.int .u64 gl) := new_cell w1 _ _ 1
  have hBG : Below w.heap.size w (w1.alloc (.cells #[.int .u64 gh, .int .u64 gl] 165)) := beyond hB1 (single _ _)
  clear s0 s1 s2 s3 s4 s5 sf0 sf1 hB1 HC
  generalize (w1.alloc (.cells #[.int .u64 gh, .int .u64 gl] 165)) = W1 at *
  generalize w1.heap.size = bg at *
  go_wp2_with fail
  refine (HD1.out _).mono ?_
  rintro e w2 ⟨rfl, hb⟩
  have u0 := kc _ _ hb t0
  have u1 := kc _ _ hb t1
  have u2 := kc _ _ hb t2
  have u3 := kc _ _ hb t3
  have u4 := kc _ _ hb t4
  have u5 := kc _ _ hb t5
  have uf0 := kf _ _ hb t4 tf0
  have uf1 := kf _ _ hb t5 tf1
  have ug0 := kc _ _ hb tg0
  have ug1 := kc _ _ hb tg1
  have hB2 : Below w.heap.size w w2 := beyond hBG hb
  clear hb t0 t1 t2 t3 t4 t5 tf0 tf1 tg0 tg1 hBG HD1
  go_upto_region 5 with (fail)
  have v0 : ((w2.alloc (.cells #[.int .u64 0, .int .u64 al] 165)).alloc (.cells #[.int .u64 xh, .int .u64 xl] 165)).cell? ⟨w.heap.size, 0, none⟩ = some (.int .u64 ph) := kc _ _ (two _ _ _) u0
  have v1 : ((w2.alloc (.cells #[.int .u64 0, .int .u64 al] 165)).alloc (.cells #[.int .u64 xh, .int .u64 xl] 165)).cell? ⟨w.heap.size, 1, none⟩ = some (.int .u64 pl) := kc _ _ (two _ _ _) u1
  have v2 : ((w2.alloc (.cells #[.int .u64 0, .int .u64 al] 165)).alloc (.cells #[.int .u64 xh, .int .u64 xl] 165)).cell? ⟨w.heap.size + 1, 0, none⟩ = some (.int .u64 qh) := kc _ _ (two _ _ _) u2
  have v3 : ((w2.alloc (.cells #[.int .u64 0, .int .u64 al] 165)).alloc (.cells #[.int .u64 xh, .int .u64 xl] 165)).cell? ⟨w.heap.size + 1, 1, none⟩ = some (.int .u64 ql) := kc _ _ (two _ _ _) u3
  have v4 : ((w2.alloc (.cells #[.int .u64 0, .int .u64 al] 165)).alloc (.cells #[.int .u64 xh, .int .u64 xl] 165)).cell? ⟨w.heap.size + 1 + 1, 0, none⟩ = some (.int .i64 0) := kc _ _ (two _ _ _) u4
  have v5 : ((w2.alloc (.cells #[.int .u64 0, .int .u64 al] 165)).alloc (.cells #[.int .u64 xh, .int .u64 xl] 165)).cell? ⟨w.heap.size + 1 + 1, 1, none⟩ = some (.int .i64 0) := kc _ _ (two _ _ _) u5
  have vf0 : ((w2.alloc (.cells #[.int .u64 0, .int .u64 al] 165)).alloc (.cells #[.int .u64 xh, .int .u64 xl] 165)).frozen? ⟨w.heap.size + 1 + 1, 0, none⟩ = false := kf _ _ (two _ _ _) u4 uf0
  have vf1 : ((w2.alloc (.cells #[.int .u64 0, .int .u64 al] 165)).alloc (.cells #[.int .u64 xh, .int .u64 xl] 165)).frozen? ⟨w.heap.size + 1 + 1, 1, none⟩ = false := kf _ _ (two _ _ _) u5 uf1
  have vg0 : ((w2.alloc (.cells #[.int .u64 0, .int .u64 al] 165)).alloc (.cells #[.int .u64 xh, .int .u64 xl] 165)).cell? ⟨bg, 0, none⟩ = some (.int .u64 gh) := kc _ _ (two _ _ _) ug0
  have vg1 : ((w2.alloc (.cells #[.int .u64 0, .int .u64 al] 165)).alloc (.cells #[.int .u64 xh, .int .u64 xl] 165)).cell? ⟨bg, 1, none⟩ = some (.int .u64 gl) := kc _ _ (two _ _ _) ug1
  have vn0 : ((w2.alloc (.cells #[.int .u64 0, .int .u64 al] 165)).alloc (.cells #[.int .u64 xh, .int .u64 xl] 165)).cell? ⟨w2.heap.size, 0, none⟩ = some (.int .u64 0) := newC3 w2 _ _ _ 0
  have vn1 : ((w2.alloc (.cells #[.int .u64 0, .int .u64 al] 165)).alloc (.cells #[.int .u64 xh, .int .u64 xl] 165)).cell? ⟨w2.heap.size, 1, none⟩ = some (.int .u64 al) := newC3 w2 _ _ _ 1
  have hB3 : Below w.heap.size w ((w2.alloc (.cells #[.int .u64 0, .int .u64 al] 165)).alloc (.cells #[.int .u64 xh, .int .u64 xl] 165)) := beyond hB2 (two _ _ _)
  clear u0 u1 u2 u3 u4 u5 uf0 uf1 ug0 ug1 hB2
  generalize ((w2.alloc (.cells #[.int .u64 0, .int .u64 al] 165)).alloc (.cells #[.int .u64 xh, .int .u64 xl] 165)) = W2 at *
  generalize w2.heap.size = bn at *
  go_wp2_with fail
  refine (HD2.out _).mono ?_
  rintro e w3 ⟨rfl, hb⟩
  have u4 := kc _ _ hb v4
  have u5 := kc _ _ hb v5
  have uf0 := kf _ _ hb v4 vf0
  have uf1 := kf _ _ hb v5 vf1
  have un0 := kc _ _ hb vn0
  have un1 := kc _ _ hb vn1
  have hB4 : Below w.heap.size w w3 := beyond hB3 hb
  clear hb v0 v1 v2 v3 v4 v5 vf0 vf1 vg0 vg1 vn0 vn1 hB3 HD2 hq
  go_upto_region 6 with (fail)
  have x4 : ((w3.alloc (.cells #[.int .u64 bh, .int .u64 bl] 165)).alloc (.cells #[.int .u64 yh, .int .u64 yl] 165)).cell? ⟨w.heap.size + 1 + 1, 0, none⟩ = some (.int .i64 0) := kc _ _ (two _ _ _) u4
  have x5 : ((w3.alloc (.cells #[.int .u64 bh, .int .u64 bl] 165)).alloc (.cells #[.int .u64 yh, .int .u64 yl] 165)).cell? ⟨w.heap.size + 1 + 1, 1, none⟩ = some (.int .i64 0) := kc _ _ (two _ _ _) u5
  have xf0 : ((w3.alloc (.cells #[.int .u64 bh, .int .u64 bl] 165)).alloc (.cells #[.int .u64 yh, .int .u64 yl] 165)).frozen? ⟨w.heap.size + 1 + 1, 0, none⟩ = false := kf _ _ (two _ _ _) u4 uf0
  have xf1 : ((w3.alloc (.cells #[.int .u64 bh, .int .u64 bl] 165)).alloc (.cells #[.int .u64 yh, .int .u64 yl] 165)).frozen? ⟨w.heap.size + 1 + 1, 1, none⟩ = false := kf _ _ (two _ _ _) u5 uf1
  have xn0 : ((w3.alloc (.cells #[.int .u64 bh, .int .u64 bl] 165)).alloc (.cells #[.int .u64 yh, .int .u64 yl] 165)).cell? ⟨bn, 0, none⟩ = some (.int .u64 0) := kc _ _ (two _ _ _) un0
  have xn1 : ((w3.alloc (.cells #[.int .u64 bh, .int .u64 bl] 165)).alloc (.cells #[.int .u64 yh, .int .u64 yl] 165)).cell? ⟨bn, 1, none⟩ = some (.int .u64 al) := kc _ _ (two _ _ _) un1
  have xd0 : ((w3.alloc (.cells #[.int .u64 bh, .int .u64 bl] 165)).alloc (.cells #[.int .u64 yh, .int .u64 yl] 165)).cell? ⟨w3.heap.size, 0, none⟩ = some (.int .u64 bh) := newC3 w3 _ _ _ 0
  have xd1 : ((w3.alloc (.cells #[.int .u64 bh, .int .u64 bl] 165)).alloc (.cells #[.int .u64 yh, .int .u64 yl] 165)).cell? ⟨w3.heap.size, 1, none⟩ = some (.int .u64 bl) := newC3 w3 _ _ _ 1
  have hB5 : Below w.heap.size w ((w3.alloc (.cells #[.int .u64 bh, .int .u64 bl] 165)).alloc (.cells #[.int .u64 yh, .int .u64 yl] 165)) := beyond hB4 (two _ _ _)
  clear u4 u5 uf0 uf1 un0 un1 hB4
  generalize ((w3.alloc (.cells #[.int .u64 bh, .int .u64 bl] 165)).alloc (.cells #[.int .u64 yh, .int .u64 yl] 165)) = W3 at *
  generalize w3.heap.size = bd at *
  have y4 : ∀ O, (W3.alloc O).cell? ⟨w.heap.size + 1 + 1, 0, none⟩ = some (.int .i64 0) := fun O => kc _ _ (single _ _) x4
  have y5 : ∀ O, (W3.alloc O).cell? ⟨w.heap.size + 1 + 1, 1, none⟩ = some (.int .i64 0) := fun O => kc _ _ (single _ _) x5
  have yn0 : ∀ O, (W3.alloc O).cell? ⟨bn, 0, none⟩ = some (.int .u64 0) := fun O => kc _ _ (single _ _) xn0
  have yn1 : ∀ O, (W3.alloc O).cell? ⟨bn, 1, none⟩ = some (.int .u64 al) := fun O => kc _ _ (single _ _) xn1
  have yf0 : ∀ O, (W3.alloc O).frozen? ⟨w.heap.size + 1 + 1, 0, none⟩ = false := fun O => kf _ _ (single _ _) x4 xf0
  have yf1 : ∀ O, (W3.alloc O).frozen? ⟨w.heap.size + 1 + 1, 1, none⟩ = false := fun O => kf _ _ (single _ _) x5 xf1
  have l3 : w.heap.size + 1 + 1 < W3.heap.size := World.block_lt_of_cell? _ _ x4
  have l4 : bn < W3.heap.size := World.block_lt_of_cell? _ _ xn0
  have m1 : ¬ W3.heap.size = w.heap.size + 1 + 1 := by omega
  have m2 : ¬ w.heap.size + 1 + 1 = W3.heap.size := by omega
  have m3 : ¬ W3.heap.size = bn := by omega
  have m4 : ¬ bn = W3.heap.size := by omega
  have HB6 := hideR (show ∀ O, Below w.heap.size w (W3.alloc O) from fun O => beyond hB5 (single _ _))
  have HB5 := hideR hB5
  clear l1 l3 l4 hB5
  go_wp2_with fail
  refine bodyPost_ret (v := trip (0, 0, 20)) (by simp [results, Tryz.results133, go_sem, *]) rfl ⟨rfl, ?_⟩
  first | exact set2 HB5.out (by omega) _ _ | exact set2 (HB6.out _) (by omega) _ _ | exact HB5.out | (refine set2 (Below.setCell (HB6.out _) ?_ _) (by omega) _ _; have := (HB6.out default).size; simp at this; omega) | trace_state
set_option maxRecDepth 100000 in
set_option maxHeartbeats 8000000 in
theorem xheld_h_false_f3 (ph pl qh ql gh gl al bh bl xh xl yh yl : Int) (w : World) (hq : ¬ qh = 0) (e2 : ¬ 9223372036854775807 < al) (hc : ¬ bh = 0)
    (HC : Hid (∀ w, Calls Tryz.prog 110 #[.agg #[.int .u64 ph, .int .u64 pl], .agg #[.int .u64 qh, .int .u64 ql]] w fun e w' => e = .returned (.agg #[.int .u64 gh, .int .u64 gl]) ∧ Below w.heap.size w w'))
    (HD1 : Hid (∀ w, Calls Tryz.prog 149 #[.agg #[.int .u64 ph, .int .u64 pl], .agg #[.int .u64 gh, .int .u64 gl]] w fun e w' => e = .returned (.tuple #[.agg #[.int .u64 0, .int .u64 al], .agg #[.int .u64 xh, .int .u64 xl]]) ∧ Below w.heap.size w w'))
    (HD2 : Hid (∀ w, Calls Tryz.prog 149 #[.agg #[.int .u64 qh, .int .u64 ql], .agg #[.int .u64 gh, .int .u64 gl]] w fun e w' => e = .returned (.tuple #[.agg #[.int .u64 bh, .int .u64 bl], .agg #[.int .u64 yh, .int .u64 yl]]) ∧ Below w.heap.size w w')) :
    Calls Tryz.prog 133 #[.bool false, .agg #[.int .u64 ph, .int .u64 pl], .agg #[.int .u64 qh, .int .u64 ql]] w fun e w' => e = .returned (trip (0, 0, 20)) ∧ Below w.heap.size w w' := by
  have n1 : ¬ w.heap.size = w.heap.size + 1 + 1 := by omega
  have n2 : ¬ w.heap.size + 1 + 1 = w.heap.size := by omega
  go_enter Tryz.func133, Tryz.ntmps133
  go_wp2_with fail
  refine (HC.out _).mono ?_
  rintro e w1 ⟨rfl, hb⟩
  have s0 := kc ⟨w.heap.size, 0, none⟩ (.int .u64 ph) hb (by first | assumption | simp [go_sem, *])
  have s1 := kc ⟨w.heap.size, 1, none⟩ (.int .u64 pl) hb (by first | assumption | simp [go_sem, *])
  have s2 := kc ⟨w.heap.size + 1, 0, none⟩ (.int .u64 qh) hb (by first | assumption | simp [go_sem, *])
  have s3 := kc ⟨w.heap.size + 1, 1, none⟩ (.int .u64 ql) hb (by first | assumption | simp [go_sem, *])
  have s4 := kc ⟨w.heap.size + 1 + 1, 0, none⟩ (.int .i64 0) hb (by first | assumption | simp [go_sem, *])
  have s5 := kc ⟨w.heap.size + 1 + 1, 1, none⟩ (.int .i64 0) hb (by first | assumption | simp [go_sem, *])
  have sf0 := kf ⟨w.heap.size + 1 + 1, 0, none⟩ (.int .i64 0) hb (by first | assumption | simp [go_sem, *]) (by first | assumption | simp [go_sem, *])
  have sf1 := kf ⟨w.heap.size + 1 + 1, 1, none⟩ (.int .i64 0) hb (by first | assumption | simp [go_sem, *]) (by first | assumption | simp [go_sem, *])
  have hB1 : Below w.heap.size w w1 := beyond (three w _ _ _) hb
  clear hb
  have l1 : w.heap.size + 1 + 1 < w1.heap.size := World.block_lt_of_cell? _ _ s4
  go_upto_region 4 with (fail)
  have t0 : (w1.alloc (.cells #[.int .u64 gh, .int .u64 gl] 165)).cell? ⟨w.heap.size, 0, none⟩ = some (.int .u64 ph) := kc _ _ (single _ _) s0
  have t1 : (w1.alloc (.cells #[.int .u64 gh, .int .u64 gl] 165)).cell? ⟨w.heap.size, 1, none⟩ = some (.int .u64 pl) := kc _ _ (single _ _) s1
  have t2 : (w1.alloc (.cells #[.int .u64 gh, .int .u64 gl] 165)).cell? ⟨w.heap.size + 1, 0, none⟩ = some (.int .u64 qh) := kc _ _ (single _ _) s2
  have t3 : (w1.alloc (.cells #[.int .u64 gh, .int .u64 gl] 165)).cell? ⟨w.heap.size + 1, 1, none⟩ = some (.int .u64 ql) := kc _ _ (single _ _) s3
  have t4 : (w1.alloc (.cells #[.int .u64 gh, .int .u64 gl] 165)).cell? ⟨w.heap.size + 1 + 1, 0, none⟩ = some (.int .i64 0) := kc _ _ (single _ _) s4
  have t5 : (w1.alloc (.cells #[.int .u64 gh, .int .u64 gl] 165)).cell? ⟨w.heap.size + 1 + 1, 1, none⟩ = some (.int .i64 0) := kc _ _ (single _ _) s5
  have tf0 : (w1.alloc (.cells #[.int .u64 gh, .int .u64 gl] 165)).frozen? ⟨w.heap.size + 1 + 1, 0, none⟩ = false := kf _ _ (single _ _) s4 sf0
  have tf1 : (w1.alloc (.cells #[.int .u64 gh, .int .u64 gl] 165)).frozen? ⟨w.heap.size + 1 + 1, 1, none⟩ = false := kf _ _ (single _ _) s5 sf1
  have tg0 : (w1.alloc (.cells #[.int .u64 gh, .int .u64 gl] 165)).cell? ⟨w1.heap.size, 0, none⟩ = some (.int .u64 gh) := new_cell w1 _ _ 0
  have tg1 : (w1.alloc (.cells #[.int .u64 gh, .int .u64 gl] 165)).cell? ⟨w1.heap.size, 1, none⟩ = some (.int .u64 gl) := new_cell w1 _ _ 1
  have hBG : Below w.heap.size w (w1.alloc (.cells #[.int .u64 gh, .int .u64 gl] 165)) := beyond hB1 (single _ _)
  clear s0 s1 s2 s3 s4 s5 sf0 sf1 hB1 HC
  generalize (w1.alloc (.cells #[.int .u64 gh, .int .u64 gl] 165)) = W1 at *
  generalize w1.heap.size = bg at *
  go_wp2_with fail
  refine (HD1.out _).mono ?_
  rintro e w2 ⟨rfl, hb⟩
  have u0 := kc _ _ hb t0
  have u1 := kc _ _ hb t1
  have u2 := kc _ _ hb t2
  have u3 := kc _ _ hb t3
  have u4 := kc _ _ hb t4
  have u5 := kc _ _ hb t5
  have uf0 := kf _ _ hb t4 tf0
  have uf1 := kf _ _ hb t5 tf1
  have ug0 := kc _ _ hb tg0
  have ug1 := kc _ _ hb tg1
  have hB2 : Below w.heap.size w w2 := beyond hBG hb
  clear hb t0 t1 t2 t3 t4 t5 tf0 tf1 tg0 tg1 hBG HD1
  go_upto_region 5 with (fail)
  have v0 : ((w2.alloc (.cells #[.int .u64 0, .int .u64 al] 165)).alloc (.cells #[.int .u64 xh, .int .u64 xl] 165)).cell? ⟨w.heap.size, 0, none⟩ = some (.int .u64 ph) := kc _ _ (two _ _ _) u0
  have v1 : ((w2.alloc (.cells #[.int .u64 0, .int .u64 al] 165)).alloc (.cells #[.int .u64 xh, .int .u64 xl] 165)).cell? ⟨w.heap.size, 1, none⟩ = some (.int .u64 pl) := kc _ _ (two _ _ _) u1
  have v2 : ((w2.alloc (.cells #[.int .u64 0, .int .u64 al] 165)).alloc (.cells #[.int .u64 xh, .int .u64 xl] 165)).cell? ⟨w.heap.size + 1, 0, none⟩ = some (.int .u64 qh) := kc _ _ (two _ _ _) u2
  have v3 : ((w2.alloc (.cells #[.int .u64 0, .int .u64 al] 165)).alloc (.cells #[.int .u64 xh, .int .u64 xl] 165)).cell? ⟨w.heap.size + 1, 1, none⟩ = some (.int .u64 ql) := kc _ _ (two _ _ _) u3
  have v4 : ((w2.alloc (.cells #[.int .u64 0, .int .u64 al] 165)).alloc (.cells #[.int .u64 xh, .int .u64 xl] 165)).cell? ⟨w.heap.size + 1 + 1, 0, none⟩ = some (.int .i64 0) := kc _ _ (two _ _ _) u4
  have v5 : ((w2.alloc (.cells #[.int .u64 0, .int .u64 al] 165)).alloc (.cells #[.int .u64 xh, .int .u64 xl] 165)).cell? ⟨w.heap.size + 1 + 1, 1, none⟩ = some (.int .i64 0) := kc _ _ (two _ _ _) u5
  have vf0 : ((w2.alloc (.cells #[.int .u64 0, .int .u64 al] 165)).alloc (.cells #[.int .u64 xh, .int .u64 xl] 165)).frozen? ⟨w.heap.size + 1 + 1, 0, none⟩ = false := kf _ _ (two _ _ _) u4 uf0
  have vf1 : ((w2.alloc (.cells #[.int .u64 0, .int .u64 al] 165)).alloc (.cells #[.int .u64 xh, .int .u64 xl] 165)).frozen? ⟨w.heap.size + 1 + 1, 1, none⟩ = false := kf _ _ (two _ _ _) u5 uf1
  have vg0 : ((w2.alloc (.cells #[.int .u64 0, .int .u64 al] 165)).alloc (.cells #[.int .u64 xh, .int .u64 xl] 165)).cell? ⟨bg, 0, none⟩ = some (.int .u64 gh) := kc _ _ (two _ _ _) ug0
  have vg1 : ((w2.alloc (.cells #[.int .u64 0, .int .u64 al] 165)).alloc (.cells #[.int .u64 xh, .int .u64 xl] 165)).cell? ⟨bg, 1, none⟩ = some (.int .u64 gl) := kc _ _ (two _ _ _) ug1
  have vn0 : ((w2.alloc (.cells #[.int .u64 0, .int .u64 al] 165)).alloc (.cells #[.int .u64 xh, .int .u64 xl] 165)).cell? ⟨w2.heap.size, 0, none⟩ = some (.int .u64 0) := newC3 w2 _ _ _ 0
  have vn1 : ((w2.alloc (.cells #[.int .u64 0, .int .u64 al] 165)).alloc (.cells #[.int .u64 xh, .int .u64 xl] 165)).cell? ⟨w2.heap.size, 1, none⟩ = some (.int .u64 al) := newC3 w2 _ _ _ 1
  have hB3 : Below w.heap.size w ((w2.alloc (.cells #[.int .u64 0, .int .u64 al] 165)).alloc (.cells #[.int .u64 xh, .int .u64 xl] 165)) := beyond hB2 (two _ _ _)
  clear u0 u1 u2 u3 u4 u5 uf0 uf1 ug0 ug1 hB2
  generalize ((w2.alloc (.cells #[.int .u64 0, .int .u64 al] 165)).alloc (.cells #[.int .u64 xh, .int .u64 xl] 165)) = W2 at *
  generalize w2.heap.size = bn at *
  go_wp2_with fail
  refine (HD2.out _).mono ?_
  rintro e w3 ⟨rfl, hb⟩
  have u4 := kc _ _ hb v4
  have u5 := kc _ _ hb v5
  have uf0 := kf _ _ hb v4 vf0
  have uf1 := kf _ _ hb v5 vf1
  have un0 := kc _ _ hb vn0
  have un1 := kc _ _ hb vn1
  have hB4 : Below w.heap.size w w3 := beyond hB3 hb
  clear hb v0 v1 v2 v3 v4 v5 vf0 vf1 vg0 vg1 vn0 vn1 hB3 HD2 hq
  go_upto_region 6 with (fail)
  have x4 : ((w3.alloc (.cells #[.int .u64 bh, .int .u64 bl] 165)).alloc (.cells #[.int .u64 yh, .int .u64 yl] 165)).cell? ⟨w.heap.size + 1 + 1, 0, none⟩ = some (.int .i64 0) := kc _ _ (two _ _ _) u4
  have x5 : ((w3.alloc (.cells #[.int .u64 bh, .int .u64 bl] 165)).alloc (.cells #[.int .u64 yh, .int .u64 yl] 165)).cell? ⟨w.heap.size + 1 + 1, 1, none⟩ = some (.int .i64 0) := kc _ _ (two _ _ _) u5
  have xf0 : ((w3.alloc (.cells #[.int .u64 bh, .int .u64 bl] 165)).alloc (.cells #[.int .u64 yh, .int .u64 yl] 165)).frozen? ⟨w.heap.size + 1 + 1, 0, none⟩ = false := kf _ _ (two _ _ _) u4 uf0
  have xf1 : ((w3.alloc (.cells #[.int .u64 bh, .int .u64 bl] 165)).alloc (.cells #[.int .u64 yh, .int .u64 yl] 165)).frozen? ⟨w.heap.size + 1 + 1, 1, none⟩ = false := kf _ _ (two _ _ _) u5 uf1
  have xn0 : ((w3.alloc (.cells #[.int .u64 bh, .int .u64 bl] 165)).alloc (.cells #[.int .u64 yh, .int .u64 yl] 165)).cell? ⟨bn, 0, none⟩ = some (.int .u64 0) := kc _ _ (two _ _ _) un0
  have xn1 : ((w3.alloc (.cells #[.int .u64 bh, .int .u64 bl] 165)).alloc (.cells #[.int .u64 yh, .int .u64 yl] 165)).cell? ⟨bn, 1, none⟩ = some (.int .u64 al) := kc _ _ (two _ _ _) un1
  have xd0 : ((w3.alloc (.cells #[.int .u64 bh, .int .u64 bl] 165)).alloc (.cells #[.int .u64 yh, .int .u64 yl] 165)).cell? ⟨w3.heap.size, 0, none⟩ = some (.int .u64 bh) := newC3 w3 _ _ _ 0
  have xd1 : ((w3.alloc (.cells #[.int .u64 bh, .int .u64 bl] 165)).alloc (.cells #[.int .u64 yh, .int .u64 yl] 165)).cell? ⟨w3.heap.size, 1, none⟩ = some (.int .u64 bl) := newC3 w3 _ _ _ 1
  have hB5 : Below w.heap.size w ((w3.alloc (.cells #[.int .u64 bh, .int .u64 bl] 165)).alloc (.cells #[.int .u64 yh, .int .u64 yl] 165)) := beyond hB4 (two _ _ _)
  clear u4 u5 uf0 uf1 un0 un1 hB4
  generalize ((w3.alloc (.cells #[.int .u64 bh, .int .u64 bl] 165)).alloc (.cells #[.int .u64 yh, .int .u64 yl] 165)) = W3 at *
  generalize w3.heap.size = bd at *
  have y4 : ∀ O, (W3.alloc O).cell? ⟨w.heap.size + 1 + 1, 0, none⟩ = some (.int .i64 0) := fun O => kc _ _ (single _ _) x4
  have y5 : ∀ O, (W3.alloc O).cell? ⟨w.heap.size + 1 + 1, 1, none⟩ = some (.int .i64 0) := fun O => kc _ _ (single _ _) x5
  have yn0 : ∀ O, (W3.alloc O).cell? ⟨bn, 0, none⟩ = some (.int .u64 0) := fun O => kc _ _ (single _ _) xn0
  have yn1 : ∀ O, (W3.alloc O).cell? ⟨bn, 1, none⟩ = some (.int .u64 al) := fun O => kc _ _ (single _ _) xn1
  have yf0 : ∀ O, (W3.alloc O).frozen? ⟨w.heap.size + 1 + 1, 0, none⟩ = false := fun O => kf _ _ (single _ _) x4 xf0
  have yf1 : ∀ O, (W3.alloc O).frozen? ⟨w.heap.size + 1 + 1, 1, none⟩ = false := fun O => kf _ _ (single _ _) x5 xf1
  have l3 : w.heap.size + 1 + 1 < W3.heap.size := World.block_lt_of_cell? _ _ x4
  have l4 : bn < W3.heap.size := World.block_lt_of_cell? _ _ xn0
  have m1 : ¬ W3.heap.size = w.heap.size + 1 + 1 := by omega
  have m2 : ¬ w.heap.size + 1 + 1 = W3.heap.size := by omega
  have m3 : ¬ W3.heap.size = bn := by omega
  have m4 : ¬ bn = W3.heap.size := by omega
  have HB6 := hideR (show ∀ O, Below w.heap.size w (W3.alloc O) from fun O => beyond hB5 (single _ _))
  have HB5 := hideR hB5
  clear l1 l3 l4 hB5
  go_wp2_with fail
  refine bodyPost_ret (v := trip (0, 0, 20)) (by simp [results, Tryz.results133, go_sem, *]) rfl ⟨rfl, ?_⟩
  first | exact set2 HB5.out (by omega) _ _ | exact set2 (HB6.out _) (by omega) _ _ | exact HB5.out | (refine set2 (Below.setCell (HB6.out _) ?_ _) (by omega) _ _; have := (HB6.out default).size; simp at this; omega) | trace_state
set_option maxRecDepth 100000 in
set_option maxHeartbeats 8000000 in
theorem xheld_h_false_f4 (ph pl qh ql gh gl al bl xh xl yh yl : Int) (w : World) (hq : ¬ qh = 0) (e2 : ¬ 9223372036854775807 < al) (hc : 9223372036854775807 < bl)
    (HC : Hid (∀ w, Calls Tryz.prog 110 #[.agg #[.int .u64 ph, .int .u64 pl], .agg #[.int .u64 qh, .int .u64 ql]] w fun e w' => e = .returned (.agg #[.int .u64 gh, .int .u64 gl]) ∧ Below w.heap.size w w'))
    (HD1 : Hid (∀ w, Calls Tryz.prog 149 #[.agg #[.int .u64 ph, .int .u64 pl], .agg #[.int .u64 gh, .int .u64 gl]] w fun e w' => e = .returned (.tuple #[.agg #[.int .u64 0, .int .u64 al], .agg #[.int .u64 xh, .int .u64 xl]]) ∧ Below w.heap.size w w'))
    (HD2 : Hid (∀ w, Calls Tryz.prog 149 #[.agg #[.int .u64 qh, .int .u64 ql], .agg #[.int .u64 gh, .int .u64 gl]] w fun e w' => e = .returned (.tuple #[.agg #[.int .u64 0, .int .u64 bl], .agg #[.int .u64 yh, .int .u64 yl]]) ∧ Below w.heap.size w w')) :
    Calls Tryz.prog 133 #[.bool false, .agg #[.int .u64 ph, .int .u64 pl], .agg #[.int .u64 qh, .int .u64 ql]] w fun e w' => e = .returned (trip (0, 0, 20)) ∧ Below w.heap.size w w' := by
  have n1 : ¬ w.heap.size = w.heap.size + 1 + 1 := by omega
  have n2 : ¬ w.heap.size + 1 + 1 = w.heap.size := by omega
  go_enter Tryz.func133, Tryz.ntmps133
  go_wp2_with fail
  refine (HC.out _).mono ?_
  rintro e w1 ⟨rfl, hb⟩
  have s0 := kc ⟨w.heap.size, 0, none⟩ (.int .u64 ph) hb (by first | assumption | simp [go_sem, *])
  have s1 := kc ⟨w.heap.size, 1, none⟩ (.int .u64 pl) hb (by first | assumption | simp [go_sem, *])
  have s2 := kc ⟨w.heap.size + 1, 0, none⟩ (.int .u64 qh) hb (by first | assumption | simp [go_sem, *])
  have s3 := kc ⟨w.heap.size + 1, 1, none⟩ (.int .u64 ql) hb (by first | assumption | simp [go_sem, *])
  have s4 := kc ⟨w.heap.size + 1 + 1, 0, none⟩ (.int .i64 0) hb (by first | assumption | simp [go_sem, *])
  have s5 := kc ⟨w.heap.size + 1 + 1, 1, none⟩ (.int .i64 0) hb (by first | assumption | simp [go_sem, *])
  have sf0 := kf ⟨w.heap.size + 1 + 1, 0, none⟩ (.int .i64 0) hb (by first | assumption | simp [go_sem, *]) (by first | assumption | simp [go_sem, *])
  have sf1 := kf ⟨w.heap.size + 1 + 1, 1, none⟩ (.int .i64 0) hb (by first | assumption | simp [go_sem, *]) (by first | assumption | simp [go_sem, *])
  have hB1 : Below w.heap.size w w1 := beyond (three w _ _ _) hb
  clear hb
  have l1 : w.heap.size + 1 + 1 < w1.heap.size := World.block_lt_of_cell? _ _ s4
  go_upto_region 4 with (fail)
  have t0 : (w1.alloc (.cells #[.int .u64 gh, .int .u64 gl] 165)).cell? ⟨w.heap.size, 0, none⟩ = some (.int .u64 ph) := kc _ _ (single _ _) s0
  have t1 : (w1.alloc (.cells #[.int .u64 gh, .int .u64 gl] 165)).cell? ⟨w.heap.size, 1, none⟩ = some (.int .u64 pl) := kc _ _ (single _ _) s1
  have t2 : (w1.alloc (.cells #[.int .u64 gh, .int .u64 gl] 165)).cell? ⟨w.heap.size + 1, 0, none⟩ = some (.int .u64 qh) := kc _ _ (single _ _) s2
  have t3 : (w1.alloc (.cells #[.int .u64 gh, .int .u64 gl] 165)).cell? ⟨w.heap.size + 1, 1, none⟩ = some (.int .u64 ql) := kc _ _ (single _ _) s3
  have t4 : (w1.alloc (.cells #[.int .u64 gh, .int .u64 gl] 165)).cell? ⟨w.heap.size + 1 + 1, 0, none⟩ = some (.int .i64 0) := kc _ _ (single _ _) s4
  have t5 : (w1.alloc (.cells #[.int .u64 gh, .int .u64 gl] 165)).cell? ⟨w.heap.size + 1 + 1, 1, none⟩ = some (.int .i64 0) := kc _ _ (single _ _) s5
  have tf0 : (w1.alloc (.cells #[.int .u64 gh, .int .u64 gl] 165)).frozen? ⟨w.heap.size + 1 + 1, 0, none⟩ = false := kf _ _ (single _ _) s4 sf0
  have tf1 : (w1.alloc (.cells #[.int .u64 gh, .int .u64 gl] 165)).frozen? ⟨w.heap.size + 1 + 1, 1, none⟩ = false := kf _ _ (single _ _) s5 sf1
  have tg0 : (w1.alloc (.cells #[.int .u64 gh, .int .u64 gl] 165)).cell? ⟨w1.heap.size, 0, none⟩ = some (.int .u64 gh) := new_cell w1 _ _ 0
  have tg1 : (w1.alloc (.cells #[.int .u64 gh, .int .u64 gl] 165)).cell? ⟨w1.heap.size, 1, none⟩ = some (.int .u64 gl) := new_cell w1 _ _ 1
  have hBG : Below w.heap.size w (w1.alloc (.cells #[.int .u64 gh, .int .u64 gl] 165)) := beyond hB1 (single _ _)
  clear s0 s1 s2 s3 s4 s5 sf0 sf1 hB1 HC
  generalize (w1.alloc (.cells #[.int .u64 gh, .int .u64 gl] 165)) = W1 at *
  generalize w1.heap.size = bg at *
  go_wp2_with fail
  refine (HD1.out _).mono ?_
  rintro e w2 ⟨rfl, hb⟩
  have u0 := kc _ _ hb t0
  have u1 := kc _ _ hb t1
  have u2 := kc _ _ hb t2
  have u3 := kc _ _ hb t3
  have u4 := kc _ _ hb t4
  have u5 := kc _ _ hb t5
  have uf0 := kf _ _ hb t4 tf0
  have uf1 := kf _ _ hb t5 tf1
  have ug0 := kc _ _ hb tg0
  have ug1 := kc _ _ hb tg1
  have hB2 : Below w.heap.size w w2 := beyond hBG hb
  clear hb t0 t1 t2 t3 t4 t5 tf0 tf1 tg0 tg1 hBG HD1
  go_upto_region 5 with (fail)
  have v0 : ((w2.alloc (.cells #[.int .u64 0, .int .u64 al] 165)).alloc (.cells #[.int .u64 xh, .int .u64 xl] 165)).cell? ⟨w.heap.size, 0, none⟩ = some (.int .u64 ph) := kc _ _ (two _ _ _) u0
  have v1 : ((w2.alloc (.cells #[.int .u64 0, .int .u64 al] 165)).alloc (.cells #[.int .u64 xh, .int .u64 xl] 165)).cell? ⟨w.heap.size, 1, none⟩ = some (.int .u64 pl) := kc _ _ (two _ _ _) u1
  have v2 : ((w2.alloc (.cells #[.int .u64 0, .int .u64 al] 165)).alloc (.cells #[.int .u64 xh, .int .u64 xl] 165)).cell? ⟨w.heap.size + 1, 0, none⟩ = some (.int .u64 qh) := kc _ _ (two _ _ _) u2
  have v3 : ((w2.alloc (.cells #[.int .u64 0, .int .u64 al] 165)).alloc (.cells #[.int .u64 xh, .int .u64 xl] 165)).cell? ⟨w.heap.size + 1, 1, none⟩ = some (.int .u64 ql) := kc _ _ (two _ _ _) u3
  have v4 : ((w2.alloc (.cells #[.int .u64 0, .int .u64 al] 165)).alloc (.cells #[.int .u64 xh, .int .u64 xl] 165)).cell? ⟨w.heap.size + 1 + 1, 0, none⟩ = some (.int .i64 0) := kc _ _ (two _ _ _) u4
  have v5 : ((w2.alloc (.cells #[.int .u64 0, .int .u64 al] 165)).alloc (.cells #[.int .u64 xh, .int .u64 xl] 165)).cell? ⟨w.heap.size + 1 + 1, 1, none⟩ = some (.int .i64 0) := kc _ _ (two _ _ _) u5
  have vf0 : ((w2.alloc (.cells #[.int .u64 0, .int .u64 al] 165)).alloc (.cells #[.int .u64 xh, .int .u64 xl] 165)).frozen? ⟨w.heap.size + 1 + 1, 0, none⟩ = false := kf _ _ (two _ _ _) u4 uf0
  have vf1 : ((w2.alloc (.cells #[.int .u64 0, .int .u64 al] 165)).alloc (.cells #[.int .u64 xh, .int .u64 xl] 165)).frozen? ⟨w.heap.size + 1 + 1, 1, none⟩ = false := kf _ _ (two _ _ _) u5 uf1
  have vg0 : ((w2.alloc (.cells #[.int .u64 0, .int .u64 al] 165)).alloc (.cells #[.int .u64 xh, .int .u64 xl] 165)).cell? ⟨bg, 0, none⟩ = some (.int .u64 gh) := kc _ _ (two _ _ _) ug0
  have vg1 : ((w2.alloc (.cells #[.int .u64 0, .int .u64 al] 165)).alloc (.cells #[.int .u64 xh, .int .u64 xl] 165)).cell? ⟨bg, 1, none⟩ = some (.int .u64 gl) := kc _ _ (two _ _ _) ug1
  have vn0 : ((w2.alloc (.cells #[.int .u64 0, .int .u64 al] 165)).alloc (.cells #[.int .u64 xh, .int .u64 xl] 165)).cell? ⟨w2.heap.size, 0, none⟩ = some (.int .u64 0) := newC3 w2 _ _ _ 0
  have vn1 : ((w2.alloc (.cells #[.int .u64 0, .int .u64 al] 165)).alloc (.cells #[.int .u64 xh, .int .u64 xl] 165)).cell? ⟨w2.heap.size, 1, none⟩ = some (.int .u64 al) := newC3 w2 _ _ _ 1
  have hB3 : Below w.heap.size w ((w2.alloc (.cells #[.int .u64 0, .int .u64 al] 165)).alloc (.cells #[.int .u64 xh, .int .u64 xl] 165)) := beyond hB2 (two _ _ _)
  clear u0 u1 u2 u3 u4 u5 uf0 uf1 ug0 ug1 hB2
  generalize ((w2.alloc (.cells #[.int .u64 0, .int .u64 al] 165)).alloc (.cells #[.int .u64 xh, .int .u64 xl] 165)) = W2 at *
  generalize w2.heap.size = bn at *
  go_wp2_with fail
  refine (HD2.out _).mono ?_
  rintro e w3 ⟨rfl, hb⟩
  have u4 := kc _ _ hb v4
  have u5 := kc _ _ hb v5
  have uf0 := kf _ _ hb v4 vf0
  have uf1 := kf _ _ hb v5 vf1
  have un0 := kc _ _ hb vn0
  have un1 := kc _ _ hb vn1
  have hB4 : Below w.heap.size w w3 := beyond hB3 hb
  clear hb v0 v1 v2 v3 v4 v5 vf0 vf1 vg0 vg1 vn0 vn1 hB3 HD2 hq
  go_upto_region 6 with (fail)
  have x4 : ((w3.alloc (.cells #[.int .u64 0, .int .u64 bl] 165)).alloc (.cells #[.int .u64 yh, .int .u64 yl] 165)).cell? ⟨w.heap.size + 1 + 1, 0, none⟩ = some (.int .i64 0) := kc _ _ (two _ _ _) u4
  have x5 : ((w3.alloc (.cells #[.int .u64 0, .int .u64 bl] 165)).alloc (.cells #[.int .u64 yh, .int .u64 yl] 165)).cell? ⟨w.heap.size + 1 + 1, 1, none⟩ = some (.int .i64 0) := kc _ _ (two _ _ _) u5
  have xf0 : ((w3.alloc (.cells #[.int .u64 0, .int .u64 bl] 165)).alloc (.cells #[.int .u64 yh, .int .u64 yl] 165)).frozen? ⟨w.heap.size + 1 + 1, 0, none⟩ = false := kf _ _ (two _ _ _) u4 uf0
  have xf1 : ((w3.alloc (.cells #[.int .u64 0, .int .u64 bl] 165)).alloc (.cells #[.int .u64 yh, .int .u64 yl] 165)).frozen? ⟨w.heap.size + 1 + 1, 1, none⟩ = false := kf _ _ (two _ _ _) u5 uf1
  have xn0 : ((w3.alloc (.cells #[.int .u64 0, .int .u64 bl] 165)).alloc (.cells #[.int .u64 yh, .int .u64 yl] 165)).cell? ⟨bn, 0, none⟩ = some (.int .u64 0) := kc _ _ (two _ _ _) un0
  have xn1 : ((w3.alloc (.cells #[.int .u64 0, .int .u64 bl] 165)).alloc (.cells #[.int .u64 yh, .int .u64 yl] 165)).cell? ⟨bn, 1, none⟩ = some (.int .u64 al) := kc _ _ (two _ _ _) un1
  have xd0 : ((w3.alloc (.cells #[.int .u64 0, .int .u64 bl] 165)).alloc (.cells #[.int .u64 yh, .int .u64 yl] 165)).cell? ⟨w3.heap.size, 0, none⟩ = some (.int .u64 0) := newC3 w3 _ _ _ 0
  have xd1 : ((w3.alloc (.cells #[.int .u64 0, .int .u64 bl] 165)).alloc (.cells #[.int .u64 yh, .int .u64 yl] 165)).cell? ⟨w3.heap.size, 1, none⟩ = some (.int .u64 bl) := newC3 w3 _ _ _ 1
  have hB5 : Below w.heap.size w ((w3.alloc (.cells #[.int .u64 0, .int .u64 bl] 165)).alloc (.cells #[.int .u64 yh, .int .u64 yl] 165)) := beyond hB4 (two _ _ _)
  clear u4 u5 uf0 uf1 un0 un1 hB4
  generalize ((w3.alloc (.cells #[.int .u64 0, .int .u64 bl] 165)).alloc (.cells #[.int .u64 yh, .int .u64 yl] 165)) = W3 at *
  generalize w3.heap.size = bd at *
  have y4 : ∀ O, (W3.alloc O).cell? ⟨w.heap.size + 1 + 1, 0, none⟩ = some (.int .i64 0) := fun O => kc _ _ (single _ _) x4
  have y5 : ∀ O, (W3.alloc O).cell? ⟨w.heap.size + 1 + 1, 1, none⟩ = some (.int .i64 0) := fun O => kc _ _ (single _ _) x5
  have yn0 : ∀ O, (W3.alloc O).cell? ⟨bn, 0, none⟩ = some (.int .u64 0) := fun O => kc _ _ (single _ _) xn0
  have yn1 : ∀ O, (W3.alloc O).cell? ⟨bn, 1, none⟩ = some (.int .u64 al) := fun O => kc _ _ (single _ _) xn1
  have yf0 : ∀ O, (W3.alloc O).frozen? ⟨w.heap.size + 1 + 1, 0, none⟩ = false := fun O => kf _ _ (single _ _) x4 xf0
  have yf1 : ∀ O, (W3.alloc O).frozen? ⟨w.heap.size + 1 + 1, 1, none⟩ = false := fun O => kf _ _ (single _ _) x5 xf1
  have l3 : w.heap.size + 1 + 1 < W3.heap.size := World.block_lt_of_cell? _ _ x4
  have l4 : bn < W3.heap.size := World.block_lt_of_cell? _ _ xn0
  have m1 : ¬ W3.heap.size = w.heap.size + 1 + 1 := by omega
  have m2 : ¬ w.heap.size + 1 + 1 = W3.heap.size := by omega
  have m3 : ¬ W3.heap.size = bn := by omega
  have m4 : ¬ bn = W3.heap.size := by omega
  have HB6 := hideR (show ∀ O, Below w.heap.size w (W3.alloc O) from fun O => beyond hB5 (single _ _))
  have HB5 := hideR hB5
  clear l1 l3 l4 hB5
  go_wp2_with fail
  refine bodyPost_ret (v := trip (0, 0, 20)) (by simp [results, Tryz.results133, go_sem, *]) rfl ⟨rfl, ?_⟩
  first | exact set2 HB5.out (by omega) _ _ | exact set2 (HB6.out _) (by omega) _ _ | exact HB5.out | (refine set2 (Below.setCell (HB6.out _) ?_ _) (by omega) _ _; have := (HB6.out default).size; simp at this; omega) | trace_state
set_option maxRecDepth 100000 in
set_option maxHeartbeats 8000000 in
theorem xheld_h_false_ok (ph pl qh ql gh gl al bl xh xl yh yl : Int) (w : World) (hq : ¬ qh = 0) (nn : Int) (e2 : ¬ 9223372036854775807 < al) (hc : ¬ 9223372036854775807 < bl) (z1 : IntKind.i64.wrap bl = bl) (z2 : IntKind.i64.wrap al = nn)
    (HC : Hid (∀ w, Calls Tryz.prog 110 #[.agg #[.int .u64 ph, .int .u64 pl], .agg #[.int .u64 qh, .int .u64 ql]] w fun e w' => e = .returned (.agg #[.int .u64 gh, .int .u64 gl]) ∧ Below w.heap.size w w'))
    (HD1 : Hid (∀ w, Calls Tryz.prog 149 #[.agg #[.int .u64 ph, .int .u64 pl], .agg #[.int .u64 gh, .int .u64 gl]] w fun e w' => e = .returned (.tuple #[.agg #[.int .u64 0, .int .u64 al], .agg #[.int .u64 xh, .int .u64 xl]]) ∧ Below w.heap.size w w'))
    (HD2 : Hid (∀ w, Calls Tryz.prog 149 #[.agg #[.int .u64 qh, .int .u64 ql], .agg #[.int .u64 gh, .int .u64 gl]] w fun e w' => e = .returned (.tuple #[.agg #[.int .u64 0, .int .u64 bl], .agg #[.int .u64 yh, .int .u64 yl]]) ∧ Below w.heap.size w w')) :
    Calls Tryz.prog 133 #[.bool false, .agg #[.int .u64 ph, .int .u64 pl], .agg #[.int .u64 qh, .int .u64 ql]] w fun e w' => e = .returned (trip (nn, bl, 0)) ∧ Below w.heap.size w w' := by
  have n1 : ¬ w.heap.size = w.heap.size + 1 + 1 := by omega
  have n2 : ¬ w.heap.size + 1 + 1 = w.heap.size := by omega
  go_enter Tryz.func133, Tryz.ntmps133
  go_wp2_with fail
  refine (HC.out _).mono ?_
  rintro e w1 ⟨rfl, hb⟩
  have s0 := kc ⟨w.heap.size, 0, none⟩ (.int .u64 ph) hb (by first | assumption | simp [go_sem, *])
  have s1 := kc ⟨w.heap.size, 1, none⟩ (.int .u64 pl) hb (by first | assumption | simp [go_sem, *])
  have s2 := kc ⟨w.heap.size + 1, 0, none⟩ (.int .u64 qh) hb (by first | assumption | simp [go_sem, *])
  have s3 := kc ⟨w.heap.size + 1, 1, none⟩ (.int .u64 ql) hb (by first | assumption | simp [go_sem, *])
  have s4 := kc ⟨w.heap.size + 1 + 1, 0, none⟩ (.int .i64 0) hb (by first | assumption | simp [go_sem, *])
  have s5 := kc ⟨w.heap.size + 1 + 1, 1, none⟩ (.int .i64 0) hb (by first | assumption | simp [go_sem, *])
  have sf0 := kf ⟨w.heap.size + 1 + 1, 0, none⟩ (.int .i64 0) hb (by first | assumption | simp [go_sem, *]) (by first | assumption | simp [go_sem, *])
  have sf1 := kf ⟨w.heap.size + 1 + 1, 1, none⟩ (.int .i64 0) hb (by first | assumption | simp [go_sem, *]) (by first | assumption | simp [go_sem, *])
  have hB1 : Below w.heap.size w w1 := beyond (three w _ _ _) hb
  clear hb
  have l1 : w.heap.size + 1 + 1 < w1.heap.size := World.block_lt_of_cell? _ _ s4
  go_upto_region 4 with (fail)
  have t0 : (w1.alloc (.cells #[.int .u64 gh, .int .u64 gl] 165)).cell? ⟨w.heap.size, 0, none⟩ = some (.int .u64 ph) := kc _ _ (single _ _) s0
  have t1 : (w1.alloc (.cells #[.int .u64 gh, .int .u64 gl] 165)).cell? ⟨w.heap.size, 1, none⟩ = some (.int .u64 pl) := kc _ _ (single _ _) s1
  have t2 : (w1.alloc (.cells #[.int .u64 gh, .int .u64 gl] 165)).cell? ⟨w.heap.size + 1, 0, none⟩ = some (.int .u64 qh) := kc _ _ (single _ _) s2
  have t3 : (w1.alloc (.cells #[.int .u64 gh, .int .u64 gl] 165)).cell? ⟨w.heap.size + 1, 1, none⟩ = some (.int .u64 ql) := kc _ _ (single _ _) s3
  have t4 : (w1.alloc (.cells #[.int .u64 gh, .int .u64 gl] 165)).cell? ⟨w.heap.size + 1 + 1, 0, none⟩ = some (.int .i64 0) := kc _ _ (single _ _) s4
  have t5 : (w1.alloc (.cells #[.int .u64 gh, .int .u64 gl] 165)).cell? ⟨w.heap.size + 1 + 1, 1, none⟩ = some (.int .i64 0) := kc _ _ (single _ _) s5
  have tf0 : (w1.alloc (.cells #[.int .u64 gh, .int .u64 gl] 165)).frozen? ⟨w.heap.size + 1 + 1, 0, none⟩ = false := kf _ _ (single _ _) s4 sf0
  have tf1 : (w1.alloc (.cells #[.int .u64 gh, .int .u64 gl] 165)).frozen? ⟨w.heap.size + 1 + 1, 1, none⟩ = false := kf _ _ (single _ _) s5 sf1
  have tg0 : (w1.alloc (.cells #[.int .u64 gh, .int .u64 gl] 165)).cell? ⟨w1.heap.size, 0, none⟩ = some (.int .u64 gh) := new_cell w1 _ _ 0
  have tg1 : (w1.alloc (.cells #[.int .u64 gh, .int .u64 gl] 165)).cell? ⟨w1.heap.size, 1, none⟩ = some (.int .u64 gl) := new_cell w1 _ _ 1
  have hBG : Below w.heap.size w (w1.alloc (.cells #[.int .u64 gh, .int .u64 gl] 165)) := beyond hB1 (single _ _)
  clear s0 s1 s2 s3 s4 s5 sf0 sf1 hB1 HC
  generalize (w1.alloc (.cells #[.int .u64 gh, .int .u64 gl] 165)) = W1 at *
  generalize w1.heap.size = bg at *
  go_wp2_with fail
  refine (HD1.out _).mono ?_
  rintro e w2 ⟨rfl, hb⟩
  have u0 := kc _ _ hb t0
  have u1 := kc _ _ hb t1
  have u2 := kc _ _ hb t2
  have u3 := kc _ _ hb t3
  have u4 := kc _ _ hb t4
  have u5 := kc _ _ hb t5
  have uf0 := kf _ _ hb t4 tf0
  have uf1 := kf _ _ hb t5 tf1
  have ug0 := kc _ _ hb tg0
  have ug1 := kc _ _ hb tg1
  have hB2 : Below w.heap.size w w2 := beyond hBG hb
  clear hb t0 t1 t2 t3 t4 t5 tf0 tf1 tg0 tg1 hBG HD1
  go_upto_region 5 with (fail)
  have v0 : ((w2.alloc (.cells #[.int .u64 0, .int .u64 al] 165)).alloc (.cells #[.int .u64 xh, .int .u64 xl] 165)).cell? ⟨w.heap.size, 0, none⟩ = some (.int .u64 ph) := kc _ _ (two _ _ _) u0
  have v1 : ((w2.alloc (.cells #[.int .u64 0, .int .u64 al] 165)).alloc (.cells #[.int .u64 xh, .int .u64 xl] 165)).cell? ⟨w.heap.size, 1, none⟩ = some (.int .u64 pl) := kc _ _ (two _ _ _) u1
  have v2 : ((w2.alloc (.cells #[.int .u64 0, .int .u64 al] 165)).alloc (.cells #[.int .u64 xh, .int .u64 xl] 165)).cell? ⟨w.heap.size + 1, 0, none⟩ = some (.int .u64 qh) := kc _ _ (two _ _ _) u2
  have v3 : ((w2.alloc (.cells #[.int .u64 0, .int .u64 al] 165)).alloc (.cells #[.int .u64 xh, .int .u64 xl] 165)).cell? ⟨w.heap.size + 1, 1, none⟩ = some (.int .u64 ql) := kc _ _ (two _ _ _) u3
  have v4 : ((w2.alloc (.cells #[.int .u64 0, .int .u64 al] 165)).alloc (.cells #[.int .u64 xh, .int .u64 xl] 165)).cell? ⟨w.heap.size + 1 + 1, 0, none⟩ = some (.int .i64 0) := kc _ _ (two _ _ _) u4
  have v5 : ((w2.alloc (.cells #[.int .u64 0, .int .u64 al] 165)).alloc (.cells #[.int .u64 xh, .int .u64 xl] 165)).cell? ⟨w.heap.size + 1 + 1, 1, none⟩ = some (.int .i64 0) := kc _ _ (two _ _ _) u5
  have vf0 : ((w2.alloc (.cells #[.int .u64 0, .int .u64 al] 165)).alloc (.cells #[.int .u64 xh, .int .u64 xl] 165)).frozen? ⟨w.heap.size + 1 + 1, 0, none⟩ = false := kf _ _ (two _ _ _) u4 uf0
  have vf1 : ((w2.alloc (.cells #[.int .u64 0, .int .u64 al] 165)).alloc (.cells #[.int .u64 xh, .int .u64 xl] 165)).frozen? ⟨w.heap.size + 1 + 1, 1, none⟩ = false := kf _ _ (two _ _ _) u5 uf1
  have vg0 : ((w2.alloc (.cells #[.int .u64 0, .int .u64 al] 165)).alloc (.cells #[.int .u64 xh, .int .u64 xl] 165)).cell? ⟨bg, 0, none⟩ = some (.int .u64 gh) := kc _ _ (two _ _ _) ug0
  have vg1 : ((w2.alloc (.cells #[.int .u64 0, .int .u64 al] 165)).alloc (.cells #[.int .u64 xh, .int .u64 xl] 165)).cell? ⟨bg, 1, none⟩ = some (.int .u64 gl) := kc _ _ (two _ _ _) ug1
  have vn0 : ((w2.alloc (.cells #[.int .u64 0, .int .u64 al] 165)).alloc (.cells #[.int .u64 xh, .int .u64 xl] 165)).cell? ⟨w2.heap.size, 0, none⟩ = some (.int .u64 0) := newC3 w2 _ _ _ 0
  have vn1 : ((w2.alloc (.cells #[.int .u64 0, .int .u64 al] 165)).alloc (.cells #[.int .u64 xh, .int .u64 xl] 165)).cell? ⟨w2.heap.size, 1, none⟩ = some (.int .u64 al) := newC3 w2 _ _ _ 1
  have hB3 : Below w.heap.size w ((w2.alloc (.cells #[.int .u64 0, .int .u64 al] 165)).alloc (.cells #[.int .u64 xh, .int .u64 xl] 165)) := beyond hB2 (two _ _ _)
  clear u0 u1 u2 u3 u4 u5 uf0 uf1 ug0 ug1 hB2
  generalize ((w2.alloc (.cells #[.int .u64 0, .int .u64 al] 165)).alloc (.cells #[.int .u64 xh, .int .u64 xl] 165)) = W2 at *
  generalize w2.heap.size = bn at *
  go_wp2_with fail
  refine (HD2.out _).mono ?_
  rintro e w3 ⟨rfl, hb⟩
  have u4 := kc _ _ hb v4
  have u5 := kc _ _ hb v5
  have uf0 := kf _ _ hb v4 vf0
  have uf1 := kf _ _ hb v5 vf1
  have un0 := kc _ _ hb vn0
  have un1 := kc _ _ hb vn1
  have hB4 : Below w.heap.size w w3 := beyond hB3 hb
  clear hb v0 v1 v2 v3 v4 v5 vf0 vf1 vg0 vg1 vn0 vn1 hB3 HD2 hq
  go_upto_region 6 with (fail)
  have x4 : ((w3.alloc (.cells #[.int .u64 0, .int .u64 bl] 165)).alloc (.cells #[.int .u64 yh, .int .u64 yl] 165)).cell? ⟨w.heap.size + 1 + 1, 0, none⟩ = some (.int .i64 0) := kc _ _ (two _ _ _) u4
  have x5 : ((w3.alloc (.cells #[.int .u64 0, .int .u64 bl] 165)).alloc (.cells #[.int .u64 yh, .int .u64 yl] 165)).cell? ⟨w.heap.size + 1 + 1, 1, none⟩ = some (.int .i64 0) := kc _ _ (two _ _ _) u5
  have xf0 : ((w3.alloc (.cells #[.int .u64 0, .int .u64 bl] 165)).alloc (.cells #[.int .u64 yh, .int .u64 yl] 165)).frozen? ⟨w.heap.size + 1 + 1, 0, none⟩ = false := kf _ _ (two _ _ _) u4 uf0
  have xf1 : ((w3.alloc (.cells #[.int .u64 0, .int .u64 bl] 165)).alloc (.cells #[.int .u64 yh, .int .u64 yl] 165)).frozen? ⟨w.heap.size + 1 + 1, 1, none⟩ = false := kf _ _ (two _ _ _) u5 uf1
  have xn0 : ((w3.alloc (.cells #[.int .u64 0, .int .u64 bl] 165)).alloc (.cells #[.int .u64 yh, .int .u64 yl] 165)).cell? ⟨bn, 0, none⟩ = some (.int .u64 0) := kc _ _ (two _ _ _) un0
  have xn1 : ((w3.alloc (.cells #[.int .u64 0, .int .u64 bl] 165)).alloc (.cells #[.int .u64 yh, .int .u64 yl] 165)).cell? ⟨bn, 1, none⟩ = some (.int .u64 al) := kc _ _ (two _ _ _) un1
  have xd0 : ((w3.alloc (.cells #[.int .u64 0, .int .u64 bl] 165)).alloc (.cells #[.int .u64 yh, .int .u64 yl] 165)).cell? ⟨w3.heap.size, 0, none⟩ = some (.int .u64 0) := newC3 w3 _ _ _ 0
  have xd1 : ((w3.alloc (.cells #[.int .u64 0, .int .u64 bl] 165)).alloc (.cells #[.int .u64 yh, .int .u64 yl] 165)).cell? ⟨w3.heap.size, 1, none⟩ = some (.int .u64 bl) := newC3 w3 _ _ _ 1
  have hB5 : Below w.heap.size w ((w3.alloc (.cells #[.int .u64 0, .int .u64 bl] 165)).alloc (.cells #[.int .u64 yh, .int .u64 yl] 165)) := beyond hB4 (two _ _ _)
  clear u4 u5 uf0 uf1 un0 un1 hB4
  generalize ((w3.alloc (.cells #[.int .u64 0, .int .u64 bl] 165)).alloc (.cells #[.int .u64 yh, .int .u64 yl] 165)) = W3 at *
  generalize w3.heap.size = bd at *
  have y4 : ∀ O, (W3.alloc O).cell? ⟨w.heap.size + 1 + 1, 0, none⟩ = some (.int .i64 0) := fun O => kc _ _ (single _ _) x4
  have y5 : ∀ O, (W3.alloc O).cell? ⟨w.heap.size + 1 + 1, 1, none⟩ = some (.int .i64 0) := fun O => kc _ _ (single _ _) x5
  have yn0 : ∀ O, (W3.alloc O).cell? ⟨bn, 0, none⟩ = some (.int .u64 0) := fun O => kc _ _ (single _ _) xn0
  have yn1 : ∀ O, (W3.alloc O).cell? ⟨bn, 1, none⟩ = some (.int .u64 al) := fun O => kc _ _ (single _ _) xn1
  have yf0 : ∀ O, (W3.alloc O).frozen? ⟨w.heap.size + 1 + 1, 0, none⟩ = false := fun O => kf _ _ (single _ _) x4 xf0
  have yf1 : ∀ O, (W3.alloc O).frozen? ⟨w.heap.size + 1 + 1, 1, none⟩ = false := fun O => kf _ _ (single _ _) x5 xf1
  have l3 : w.heap.size + 1 + 1 < W3.heap.size := World.block_lt_of_cell? _ _ x4
  have l4 : bn < W3.heap.size := World.block_lt_of_cell? _ _ xn0
  have m1 : ¬ W3.heap.size = w.heap.size + 1 + 1 := by omega
  have m2 : ¬ w.heap.size + 1 + 1 = W3.heap.size := by omega
  have m3 : ¬ W3.heap.size = bn := by omega
  have m4 : ¬ bn = W3.heap.size := by omega
  have HB6 := hideR (show ∀ O, Below w.heap.size w (W3.alloc O) from fun O => beyond hB5 (single _ _))
  have HB5 := hideR hB5
  clear l1 l3 l4 hB5
  go_wp2_with fail
  refine bodyPost_ret (v := trip (nn, bl, 0)) (by simp [results, Tryz.results133, go_sem, *]) rfl ⟨rfl, ?_⟩
  first | exact set2 HB5.out (by omega) _ _ | exact set2 (HB6.out _) (by omega) _ _ | exact HB5.out | (refine set2 (Below.setCell (HB6.out _) ?_ _) (by omega) _ _; have := (HB6.out default).size; simp at this; omega) | trace_state
set_option maxRecDepth 100000 in
set_option maxHeartbeats 8000000 in
theorem xheld_h_true_f1 (ph pl qh ql gh gl ah al bh bl xh xl yh yl : Int) (w : World) (hq : ¬ qh = 0) (hc : ¬ ah = 0)
    (HC : Hid (∀ w, Calls Tryz.prog 110 #[.agg #[.int .u64 ph, .int .u64 pl], .agg #[.int .u64 qh, .int .u64 ql]] w fun e w' => e = .returned (.agg #[.int .u64 gh, .int .u64 gl]) ∧ Below w.heap.size w w'))
    (HD1 : Hid (∀ w, Calls Tryz.prog 149 #[.agg #[.int .u64 ph, .int .u64 pl], .agg #[.int .u64 gh, .int .u64 gl]] w fun e w' => e = .returned (.tuple #[.agg #[.int .u64 ah, .int .u64 al], .agg #[.int .u64 xh, .int .u64 xl]]) ∧ Below w.heap.size w w'))
    (HD2 : Hid (∀ w, Calls Tryz.prog 149 #[.agg #[.int .u64 qh, .int .u64 ql], .agg #[.int .u64 gh, .int .u64 gl]] w fun e w' => e = .returned (.tuple #[.agg #[.int .u64 bh, .int .u64 bl], .agg #[.int .u64 yh, .int .u64 yl]]) ∧ Below w.heap.size w w')) :
    Calls Tryz.prog 133 #[.bool true, .agg #[.int .u64 ph, .int .u64 pl], .agg #[.int .u64 qh, .int .u64 ql]] w fun e w' => e = .returned (trip (0, 0, 20)) ∧ Below w.heap.size w w' := by
  have n1 : ¬ w.heap.size = w.heap.size + 1 + 1 := by omega
  have n2 : ¬ w.heap.size + 1 + 1 = w.heap.size := by omega
  go_enter Tryz.func133, Tryz.ntmps133
  go_wp2_with fail
  refine (HC.out _).mono ?_
  rintro e w1 ⟨rfl, hb⟩
  have s0 := kc ⟨w.heap.size, 0, none⟩ (.int .u64 ph) hb (by first | assumption | simp [go_sem, *])
  have s1 := kc ⟨w.heap.size, 1, none⟩ (.int .u64 pl) hb (by first | assumption | simp [go_sem, *])
  have s2 := kc ⟨w.heap.size + 1, 0, none⟩ (.int .u64 qh) hb (by first | assumption | simp [go_sem, *])
  have s3 := kc ⟨w.heap.size + 1, 1, none⟩ (.int .u64 ql) hb (by first | assumption | simp [go_sem, *])
  have s4 := kc ⟨w.heap.size + 1 + 1, 0, none⟩ (.int .i64 0) hb (by first | assumption | simp [go_sem, *])
  have s5 := kc ⟨w.heap.size + 1 + 1, 1, none⟩ (.int .i64 0) hb (by first | assumption | simp [go_sem, *])
  have sf0 := kf ⟨w.heap.size + 1 + 1, 0, none⟩ (.int .i64 0) hb (by first | assumption | simp [go_sem, *]) (by first | assumption | simp [go_sem, *])
  have sf1 := kf ⟨w.heap.size + 1 + 1, 1, none⟩ (.int .i64 0) hb (by first | assumption | simp [go_sem, *]) (by first | assumption | simp [go_sem, *])
  have hB1 : Below w.heap.size w w1 := beyond (three w _ _ _) hb
  clear hb
  have l1 : w.heap.size + 1 + 1 < w1.heap.size := World.block_lt_of_cell? _ _ s4
  go_upto_region 4 with (fail)
  have t0 : (w1.alloc (.cells #[.int .u64 gh, .int .u64 gl] 165)).cell? ⟨w.heap.size, 0, none⟩ = some (.int .u64 ph) := kc _ _ (single _ _) s0
  have t1 : (w1.alloc (.cells #[.int .u64 gh, .int .u64 gl] 165)).cell? ⟨w.heap.size, 1, none⟩ = some (.int .u64 pl) := kc _ _ (single _ _) s1
  have t2 : (w1.alloc (.cells #[.int .u64 gh, .int .u64 gl] 165)).cell? ⟨w.heap.size + 1, 0, none⟩ = some (.int .u64 qh) := kc _ _ (single _ _) s2
  have t3 : (w1.alloc (.cells #[.int .u64 gh, .int .u64 gl] 165)).cell? ⟨w.heap.size + 1, 1, none⟩ = some (.int .u64 ql) := kc _ _ (single _ _) s3
  have t4 : (w1.alloc (.cells #[.int .u64 gh, .int .u64 gl] 165)).cell? ⟨w.heap.size + 1 + 1, 0, none⟩ = some (.int .i64 0) := kc _ _ (single _ _) s4
  have t5 : (w1.alloc (.cells #[.int .u64 gh, .int .u64 gl] 165)).cell? ⟨w.heap.size + 1 + 1, 1, none⟩ = some (.int .i64 0) := kc _ _ (single _ _) s5
  have tf0 : (w1.alloc (.cells #[.int .u64 gh, .int .u64 gl] 165)).frozen? ⟨w.heap.size + 1 + 1, 0, none⟩ = false := kf _ _ (single _ _) s4 sf0
  have tf1 : (w1.alloc (.cells #[.int .u64 gh, .int .u64 gl] 165)).frozen? ⟨w.heap.size + 1 + 1, 1, none⟩ = false := kf _ _ (single _ _) s5 sf1
  have tg0 : (w1.alloc (.cells #[.int .u64 gh, .int .u64 gl] 165)).cell? ⟨w1.heap.size, 0, none⟩ = some (.int .u64 gh) := new_cell w1 _ _ 0
  have tg1 : (w1.alloc (.cells #[.int .u64 gh, .int .u64 gl] 165)).cell? ⟨w1.heap.size, 1, none⟩ = some (.int .u64 gl) := new_cell w1 _ _ 1
  have hBG : Below w.heap.size w (w1.alloc (.cells #[.int .u64 gh, .int .u64 gl] 165)) := beyond hB1 (single _ _)
  clear s0 s1 s2 s3 s4 s5 sf0 sf1 hB1 HC
  generalize (w1.alloc (.cells #[.int .u64 gh, .int .u64 gl] 165)) = W1 at *
  generalize w1.heap.size = bg at *
  go_wp2_with fail
  refine (HD1.out _).mono ?_
  rintro e w2 ⟨rfl, hb⟩
  have u0 := kc _ _ hb t0
  have u1 := kc _ _ hb t1
  have u2 := kc _ _ hb t2
  have u3 := kc _ _ hb t3
  have u4 := kc _ _ hb t4
  have u5 := kc _ _ hb t5
  have uf0 := kf _ _ hb t4 tf0
  have uf1 := kf _ _ hb t5 tf1
  have ug0 := kc _ _ hb tg0
  have ug1 := kc _ _ hb tg1
  have hB2 : Below w.heap.size w w2 := beyond hBG hb
  clear hb t0 t1 t2 t3 t4 t5 tf0 tf1 tg0 tg1 hBG HD1
  go_upto_region 5 with (fail)
  have v0 : ((w2.alloc (.cells #[.int .u64 ah, .int .u64 al] 165)).alloc (.cells #[.int .u64 xh, .int .u64 xl] 165)).cell? ⟨w.heap.size, 0, none⟩ = some (.int .u64 ph) := kc _ _ (two _ _ _) u0
  have v1 : ((w2.alloc (.cells #[.int .u64 ah, .int .u64 al] 165)).alloc (.cells #[.int .u64 xh, .int .u64 xl] 165)).cell? ⟨w.heap.size, 1, none⟩ = some (.int .u64 pl) := kc _ _ (two _ _ _) u1
  have v2 : ((w2.alloc (.cells #[.int .u64 ah, .int .u64 al] 165)).alloc (.cells #[.int .u64 xh, .int .u64 xl] 165)).cell? ⟨w.heap.size + 1, 0, none⟩ = some (.int .u64 qh) := kc _ _ (two _ _ _) u2
  have v3 : ((w2.alloc (.cells #[.int .u64 ah, .int .u64 al] 165)).alloc (.cells #[.int .u64 xh, .int .u64 xl] 165)).cell? ⟨w.heap.size + 1, 1, none⟩ = some (.int .u64 ql) := kc _ _ (two _ _ _) u3
  have v4 : ((w2.alloc (.cells #[.int .u64 ah, .int .u64 al] 165)).alloc (.cells #[.int .u64 xh, .int .u64 xl] 165)).cell? ⟨w.heap.size + 1 + 1, 0, none⟩ = some (.int .i64 0) := kc _ _ (two _ _ _) u4
  have v5 : ((w2.alloc (.cells #[.int .u64 ah, .int .u64 al] 165)).alloc (.cells #[.int .u64 xh, .int .u64 xl] 165)).cell? ⟨w.heap.size + 1 + 1, 1, none⟩ = some (.int .i64 0) := kc _ _ (two _ _ _) u5
  have vf0 : ((w2.alloc (.cells #[.int .u64 ah, .int .u64 al] 165)).alloc (.cells #[.int .u64 xh, .int .u64 xl] 165)).frozen? ⟨w.heap.size + 1 + 1, 0, none⟩ = false := kf _ _ (two _ _ _) u4 uf0
  have vf1 : ((w2.alloc (.cells #[.int .u64 ah, .int .u64 al] 165)).alloc (.cells #[.int .u64 xh, .int .u64 xl] 165)).frozen? ⟨w.heap.size + 1 + 1, 1, none⟩ = false := kf _ _ (two _ _ _) u5 uf1
  have vg0 : ((w2.alloc (.cells #[.int .u64 ah, .int .u64 al] 165)).alloc (.cells #[.int .u64 xh, .int .u64 xl] 165)).cell? ⟨bg, 0, none⟩ = some (.int .u64 gh) := kc _ _ (two _ _ _) ug0
  have vg1 : ((w2.alloc (.cells #[.int .u64 ah, .int .u64 al] 165)).alloc (.cells #[.int .u64 xh, .int .u64 xl] 165)).cell? ⟨bg, 1, none⟩ = some (.int .u64 gl) := kc _ _ (two _ _ _) ug1
  have vn0 : ((w2.alloc (.cells #[.int .u64 ah, .int .u64 al] 165)).alloc (.cells #[.int .u64 xh, .int .u64 xl] 165)).cell? ⟨w2.heap.size, 0, none⟩ = some (.int .u64 ah) := newC3 w2 _ _ _ 0
  have vn1 : ((w2.alloc (.cells #[.int .u64 ah, .int .u64 al] 165)).alloc (.cells #[.int .u64 xh, .int .u64 xl] 165)).cell? ⟨w2.heap.size, 1, none⟩ = some (.int .u64 al) := newC3 w2 _ _ _ 1
  have hB3 : Below w.heap.size w ((w2.alloc (.cells #[.int .u64 ah, .int .u64 al] 165)).alloc (.cells #[.int .u64 xh, .int .u64 xl] 165)) := beyond hB2 (two _ _ _)
  clear u0 u1 u2 u3 u4 u5 uf0 uf1 ug0 ug1 hB2
  generalize ((w2.alloc (.cells #[.int .u64 ah, .int .u64 al] 165)).alloc (.cells #[.int .u64 xh, .int .u64 xl] 165)) = W2 at *
  generalize w2.heap.size = bn at *
  go_wp2_with fail
  refine (HD2.out _).mono ?_
  rintro e w3 ⟨rfl, hb⟩
  have u4 := kc _ _ hb v4
  have u5 := kc _ _ hb v5
  have uf0 := kf _ _ hb v4 vf0
  have uf1 := kf _ _ hb v5 vf1
  have un0 := kc _ _ hb vn0
  have un1 := kc _ _ hb vn1
  have hB4 : Below w.heap.size w w3 := beyond hB3 hb
  clear hb v0 v1 v2 v3 v4 v5 vf0 vf1 vg0 vg1 vn0 vn1 hB3 HD2 hq
  go_upto_region 6 with (fail)
  have x4 : ((w3.alloc (.cells #[.int .u64 bh, .int .u64 bl] 165)).alloc (.cells #[.int .u64 yh, .int .u64 yl] 165)).cell? ⟨w.heap.size + 1 + 1, 0, none⟩ = some (.int .i64 0) := kc _ _ (two _ _ _) u4
  have x5 : ((w3.alloc (.cells #[.int .u64 bh, .int .u64 bl] 165)).alloc (.cells #[.int .u64 yh, .int .u64 yl] 165)).cell? ⟨w.heap.size + 1 + 1, 1, none⟩ = some (.int .i64 0) := kc _ _ (two _ _ _) u5
  have xf0 : ((w3.alloc (.cells #[.int .u64 bh, .int .u64 bl] 165)).alloc (.cells #[.int .u64 yh, .int .u64 yl] 165)).frozen? ⟨w.heap.size + 1 + 1, 0, none⟩ = false := kf _ _ (two _ _ _) u4 uf0
  have xf1 : ((w3.alloc (.cells #[.int .u64 bh, .int .u64 bl] 165)).alloc (.cells #[.int .u64 yh, .int .u64 yl] 165)).frozen? ⟨w.heap.size + 1 + 1, 1, none⟩ = false := kf _ _ (two _ _ _) u5 uf1
  have xn0 : ((w3.alloc (.cells #[.int .u64 bh, .int .u64 bl] 165)).alloc (.cells #[.int .u64 yh, .int .u64 yl] 165)).cell? ⟨bn, 0, none⟩ = some (.int .u64 ah) := kc _ _ (two _ _ _) un0
  have xn1 : ((w3.alloc (.cells #[.int .u64 bh, .int .u64 bl] 165)).alloc (.cells #[.int .u64 yh, .int .u64 yl] 165)).cell? ⟨bn, 1, none⟩ = some (.int .u64 al) := kc _ _ (two _ _ _) un1
  have xd0 : ((w3.alloc (.cells #[.int .u64 bh, .int .u64 bl] 165)).alloc (.cells #[.int .u64 yh, .int .u64 yl] 165)).cell? ⟨w3.heap.size, 0, none⟩ = some (.int .u64 bh) := newC3 w3 _ _ _ 0
  have xd1 : ((w3.alloc (.cells #[.int .u64 bh, .int .u64 bl] 165)).alloc (.cells #[.int .u64 yh, .int .u64 yl] 165)).cell? ⟨w3.heap.size, 1, none⟩ = some (.int .u64 bl) := newC3 w3 _ _ _ 1
  have hB5 : Below w.heap.size w ((w3.alloc (.cells #[.int .u64 bh, .int .u64 bl] 165)).alloc (.cells #[.int .u64 yh, .int .u64 yl] 165)) := beyond hB4 (two _ _ _)
  clear u4 u5 uf0 uf1 un0 un1 hB4
  generalize ((w3.alloc (.cells #[.int .u64 bh, .int .u64 bl] 165)).alloc (.cells #[.int .u64 yh, .int .u64 yl] 165)) = W3 at *
  generalize w3.heap.size = bd at *
  have y4 : ∀ O, (W3.alloc O).cell? ⟨w.heap.size + 1 + 1, 0, none⟩ = some (.int .i64 0) := fun O => kc _ _ (single _ _) x4
  have y5 : ∀ O, (W3.alloc O).cell? ⟨w.heap.size + 1 + 1, 1, none⟩ = some (.int .i64 0) := fun O => kc _ _ (single _ _) x5
  have yn0 : ∀ O, (W3.alloc O).cell? ⟨bn, 0, none⟩ = some (.int .u64 ah) := fun O => kc _ _ (single _ _) xn0
  have yn1 : ∀ O, (W3.alloc O).cell? ⟨bn, 1, none⟩ = some (.int .u64 al) := fun O => kc _ _ (single _ _) xn1
  have yf0 : ∀ O, (W3.alloc O).frozen? ⟨w.heap.size + 1 + 1, 0, none⟩ = false := fun O => kf _ _ (single _ _) x4 xf0
  have yf1 : ∀ O, (W3.alloc O).frozen? ⟨w.heap.size + 1 + 1, 1, none⟩ = false := fun O => kf _ _ (single _ _) x5 xf1
  have l3 : w.heap.size + 1 + 1 < W3.heap.size := World.block_lt_of_cell? _ _ x4
  have l4 : bn < W3.heap.size := World.block_lt_of_cell? _ _ xn0
  have m1 : ¬ W3.heap.size = w.heap.size + 1 + 1 := by omega
  have m2 : ¬ w.heap.size + 1 + 1 = W3.heap.size := by omega
  have m3 : ¬ W3.heap.size = bn := by omega
  have m4 : ¬ bn = W3.heap.size := by omega
  have HB6 := hideR (show ∀ O, Below w.heap.size w (W3.alloc O) from fun O => beyond hB5 (single _ _))
  have HB5 := hideR hB5
  clear l1 l3 l4 hB5
  go_wp2_with fail
  refine bodyPost_ret (v := trip (0, 0, 20)) (by simp [results, Tryz.results133, go_sem, *]) rfl ⟨rfl, ?_⟩
  first | exact set2 HB5.out (by omega) _ _ | exact set2 (HB6.out _) (by omega) _ _ | exact HB5.out | (refine set2 (Below.setCell (HB6.out _) ?_ _) (by omega) _ _; have := (HB6.out default).size; simp at this; omega) | trace_state
set_option maxRecDepth 100000 in
set_option maxHeartbeats 8000000 in
theorem xheld_h_true_f2 (ph pl qh ql gh gl al bh bl xh xl yh yl : Int) (w : World) (hq : ¬ qh = 0) (hc : 9223372036854775808 < al)
    (HC : Hid (∀ w, Calls Tryz.prog 110 #[.agg #[.int .u64 ph, .int .u64 pl], .agg #[.int .u64 qh, .int .u64 ql]] w fun e w' => e = .returned (.agg #[.int .u64 gh, .int .u64 gl]) ∧ Below w.heap.size w w'))
    (HD1 : Hid (∀ w, Calls Tryz.prog 149 #[.agg #[.int .u64 ph, .int .u64 pl], .agg #[.int .u64 gh, .int .u64 gl]] w fun e w' => e = .returned (.tuple #[.agg #[.int .u64 0, .int .u64 al], .agg #[.int .u64 xh, .int .u64 xl]]) ∧ Below w.heap.size w w'))
    (HD2 : Hid (∀ w, Calls Tryz.prog 149 #[.agg #[.int .u64 qh, .int .u64 ql], .agg #[.int .u64 gh, .int .u64 gl]] w fun e w' => e = .returned (.tuple #[.agg #[.int .u64 bh, .int .u64 bl], .agg #[.int .u64 yh, .int .u64 yl]]) ∧ Below w.heap.size w w')) :
    Calls Tryz.prog 133 #[.bool true, .agg #[.int .u64 ph, .int .u64 pl], .agg #[.int .u64 qh, .int .u64 ql]] w fun e w' => e = .returned (trip (0, 0, 20)) ∧ Below w.heap.size w w' := by
  have n1 : ¬ w.heap.size = w.heap.size + 1 + 1 := by omega
  have n2 : ¬ w.heap.size + 1 + 1 = w.heap.size := by omega
  go_enter Tryz.func133, Tryz.ntmps133
  go_wp2_with fail
  refine (HC.out _).mono ?_
  rintro e w1 ⟨rfl, hb⟩
  have s0 := kc ⟨w.heap.size, 0, none⟩ (.int .u64 ph) hb (by first | assumption | simp [go_sem, *])
  have s1 := kc ⟨w.heap.size, 1, none⟩ (.int .u64 pl) hb (by first | assumption | simp [go_sem, *])
  have s2 := kc ⟨w.heap.size + 1, 0, none⟩ (.int .u64 qh) hb (by first | assumption | simp [go_sem, *])
  have s3 := kc ⟨w.heap.size + 1, 1, none⟩ (.int .u64 ql) hb (by first | assumption | simp [go_sem, *])
  have s4 := kc ⟨w.heap.size + 1 + 1, 0, none⟩ (.int .i64 0) hb (by first | assumption | simp [go_sem, *])
  have s5 := kc ⟨w.heap.size + 1 + 1, 1, none⟩ (.int .i64 0) hb (by first | assumption | simp [go_sem, *])
  have sf0 := kf ⟨w.heap.size + 1 + 1, 0, none⟩ (.int .i64 0) hb (by first | assumption | simp [go_sem, *]) (by first | assumption | simp [go_sem, *])
  have sf1 := kf ⟨w.heap.size + 1 + 1, 1, none⟩ (.int .i64 0) hb (by first | assumption | simp [go_sem, *]) (by first | assumption | simp [go_sem, *])
  have hB1 : Below w.heap.size w w1 := beyond (three w _ _ _) hb
  clear hb
  have l1 : w.heap.size + 1 + 1 < w1.heap.size := World.block_lt_of_cell? _ _ s4
  go_upto_region 4 with (fail)
  have t0 : (w1.alloc (.cells #[.int .u64 gh, .int .u64 gl] 165)).cell? ⟨w.heap.size, 0, none⟩ = some (.int .u64 ph) := kc _ _ (single _ _) s0
  have t1 : (w1.alloc (.cells #[.int .u64 gh, .int .u64 gl] 165)).cell? ⟨w.heap.size, 1, none⟩ = some (.int .u64 pl) := kc _ _ (single _ _) s1
  have t2 : (w1.alloc (.cells #[.int .u64 gh, .int .u64 gl] 165)).cell? ⟨w.heap.size + 1, 0, none⟩ = some (.int .u64 qh) := kc _ _ (single _ _) s2
  have t3 : (w1.alloc (.cells #[.int .u64 gh, .int .u64 gl] 165)).cell? ⟨w.heap.size + 1, 1, none⟩ = some (.int .u64 ql) := kc _ _ (single _ _) s3
  have t4 : (w1.alloc (.cells #[.int .u64 gh, .int .u64 gl] 165)).cell? ⟨w.heap.size + 1 + 1, 0, none⟩ = some (.int .i64 0) := kc _ _ (single _ _) s4
  have t5 : (w1.alloc (.cells #[.int .u64 gh, .int .u64 gl] 165)).cell? ⟨w.heap.size + 1 + 1, 1, none⟩ = some (.int .i64 0) := kc _ _ (single _ _) s5
  have tf0 : (w1.alloc (.cells #[.int .u64 gh, .int .u64 gl] 165)).frozen? ⟨w.heap.size + 1 + 1, 0, none⟩ = false := kf _ _ (single _ _) s4 sf0
  have tf1 : (w1.alloc (.cells #[.int .u64 gh, .int .u64 gl] 165)).frozen? ⟨w.heap.size + 1 + 1, 1, none⟩ = false := kf _ _ (single _ _) s5 sf1
  have tg0 : (w1.alloc (.cells #[.int .u64 gh, .int .u64 gl] 165)).cell? ⟨w1.heap.size, 0, none⟩ = some (.int .u64 gh) := new_cell w1 _ _ 0
  have tg1 : (w1.alloc (.cells #[.int .u64 gh, .int .u64 gl] 165)).cell? ⟨w1.heap.size, 1, none⟩ = some (.int .u64 gl) := new_cell w1 _ _ 1
  have hBG : Below w.heap.size w (w1.alloc (.cells #[.int .u64 gh, .int .u64 gl] 165)) := beyond hB1 (single _ _)
  clear s0 s1 s2 s3 s4 s5 sf0 sf1 hB1 HC
  generalize (w1.alloc (.cells #[.int .u64 gh, .int .u64 gl] 165)) = W1 at *
  generalize w1.heap.size = bg at *
  go_wp2_with fail
  refine (HD1.out _).mono ?_
  rintro e w2 ⟨rfl, hb⟩
  have u0 := kc _ _ hb t0
  have u1 := kc _ _ hb t1
  have u2 := kc _ _ hb t2
  have u3 := kc _ _ hb t3
  have u4 := kc _ _ hb t4
  have u5 := kc _ _ hb t5
  have uf0 := kf _ _ hb t4 tf0
  have uf1 := kf _ _ hb t5 tf1
  have ug0 := kc _ _ hb tg0
  have ug1 := kc _ _ hb tg1
  have hB2 : Below w.heap.size w w2 := beyond hBG hb
  clear hb t0 t1 t2 t3 t4 t5 tf0 tf1 tg0 tg1 hBG HD1
  go_upto_region 5 with (fail)
  have v0 : ((w2.alloc (.cells #[.int .u64 0, .int .u64 al] 165)).alloc (.cells #[.int .u64 xh, .int .u64 xl] 165)).cell? ⟨w.heap.size, 0, none⟩ = some (.int .u64 ph) := kc _ _ (two _ _ _) u0
  have v1 : ((w2.alloc (.cells #[.int .u64 0, .int .u64 al] 165)).alloc (.cells #[.int .u64 xh, .int .u64 xl] 165)).cell? ⟨w.heap.size, 1, none⟩ = some (.int .u64 pl) := kc _ _ (two _ _ _) u1
  have v2 : ((w2.alloc (.cells #[.int .u64 0, .int .u64 al] 165)).alloc (.cells #[.int .u64 xh, .int .u64 xl] 165)).cell? ⟨w.heap.size + 1, 0, none⟩ = some (.int .u64 qh) := kc _ _ (two _ _ _) u2
  have v3 : ((w2.alloc (.cells #[.int .u64 0, .int .u64 al] 165)).alloc (.cells #[.int .u64 xh, .int .u64 xl] 165)).cell? ⟨w.heap.size + 1, 1, none⟩ = some (.int .u64 ql) := kc _ _ (two _ _ _) u3
  have v4 : ((w2.alloc (.cells #[.int .u64 0, .int .u64 al] 165)).alloc (.cells #[.int .u64 xh, .int .u64 xl] 165)).cell? ⟨w.heap.size + 1 + 1, 0, none⟩ = some (.int .i64 0) := kc _ _ (two _ _ _) u4
  have v5 : ((w2.alloc (.cells #[.int .u64 0, .int .u64 al] 165)).alloc (.cells #[.int .u64 xh, .int .u64 xl] 165)).cell? ⟨w.heap.size + 1 + 1, 1, none⟩ = some (.int .i64 0) := kc _ _ (two _ _ _) u5
  have vf0 : ((w2.alloc (.cells #[.int .u64 0, .int .u64 al] 165)).alloc (.cells #[.int .u64 xh, .int .u64 xl] 165)).frozen? ⟨w.heap.size + 1 + 1, 0, none⟩ = false := kf _ _ (two _ _ _) u4 uf0
  have vf1 : ((w2.alloc (.cells #[.int .u64 0, .int .u64 al] 165)).alloc (.cells #[.int .u64 xh, .int .u64 xl] 165)).frozen? ⟨w.heap.size + 1 + 1, 1, none⟩ = false := kf _ _ (two _ _ _) u5 uf1
  have vg0 : ((w2.alloc (.cells #[.int .u64 0, .int .u64 al] 165)).alloc (.cells #[.int .u64 xh, .int .u64 xl] 165)).cell? ⟨bg, 0, none⟩ = some (.int .u64 gh) := kc _ _ (two _ _ _) ug0
  have vg1 : ((w2.alloc (.cells #[.int .u64 0, .int .u64 al] 165)).alloc (.cells #[.int .u64 xh, .int .u64 xl] 165)).cell? ⟨bg, 1, none⟩ = some (.int .u64 gl) := kc _ _ (two _ _ _) ug1
  have vn0 : ((w2.alloc (.cells #[.int .u64 0, .int .u64 al] 165)).alloc (.cells #[.int .u64 xh, .int .u64 xl] 165)).cell? ⟨w2.heap.size, 0, none⟩ = some (.int .u64 0) := newC3 w2 _ _ _ 0
  have vn1 : ((w2.alloc (.cells #[.int .u64 0, .int .u64 al] 165)).alloc (.cells #[.int .u64 xh, .int .u64 xl] 165)).cell? ⟨w2.heap.size, 1, none⟩ = some (.int .u64 al) := newC3 w2 _ _ _ 1
  have hB3 : Below w.heap.size w ((w2.alloc (.cells #[.int .u64 0, .int .u64 al] 165)).alloc (.cells #[.int .u64 xh, .int .u64 xl] 165)) := beyond hB2 (two _ _ _)
  clear u0 u1 u2 u3 u4 u5 uf0 uf1 ug0 ug1 hB2
  generalize ((w2.alloc (.cells #[.int .u64 0, .int .u64 al] 165)).alloc (.cells #[.int .u64 xh, .int .u64 xl] 165)) = W2 at *
  generalize w2.heap.size = bn at *
  go_wp2_with fail
  refine (HD2.out _).mono ?_
  rintro e w3 ⟨rfl, hb⟩
  have u4 := kc _ _ hb v4
  have u5 := kc _ _ hb v5
  have uf0 := kf _ _ hb v4 vf0
  have uf1 := kf _ _ hb v5 vf1
  have un0 := kc _ _ hb vn0
  have un1 := kc _ _ hb vn1
  have hB4 : Below w.heap.size w w3 := beyond hB3 hb
  clear hb v0 v1 v2 v3 v4 v5 vf0 vf1 vg0 vg1 vn0 vn1 hB3 HD2 hq
  go_upto_region 6 with (fail)
  have x4 : ((w3.alloc (.cells #[.int .u64 bh, .int .u64 bl] 165)).alloc (.cells #[.int .u64 yh, .int .u64 yl] 165)).cell? ⟨w.heap.size + 1 + 1, 0, none⟩ = some (.int .i64 0) := kc _ _ (two _ _ _) u4
  have x5 : ((w3.alloc (.cells #[.int .u64 bh, .int .u64 bl] 165)).alloc (.cells #[.int .u64 yh, .int .u64 yl] 165)).cell? ⟨w.heap.size + 1 + 1, 1, none⟩ = some (.int .i64 0) := kc _ _ (two _ _ _) u5
  have xf0 : ((w3.alloc (.cells #[.int .u64 bh, .int .u64 bl] 165)).alloc (.cells #[.int .u64 yh, .int .u64 yl] 165)).frozen? ⟨w.heap.size + 1 + 1, 0, none⟩ = false := kf _ _ (two _ _ _) u4 uf0
  have xf1 : ((w3.alloc (.cells #[.int .u64 bh, .int .u64 bl] 165)).alloc (.cells #[.int .u64 yh, .int .u64 yl] 165)).frozen? ⟨w.heap.size + 1 + 1, 1, none⟩ = false := kf _ _ (two _ _ _) u5 uf1
  have xn0 : ((w3.alloc (.cells #[.int .u64 bh, .int .u64 bl] 165)).alloc (.cells #[.int .u64 yh, .int .u64 yl] 165)).cell? ⟨bn, 0, none⟩ = some (.int .u64 0) := kc _ _ (two _ _ _) un0
  have xn1 : ((w3.alloc (.cells #[.int .u64 bh, .int .u64 bl] 165)).alloc (.cells #[.int .u64 yh, .int .u64 yl] 165)).cell? ⟨bn, 1, none⟩ = some (.int .u64 al) := kc _ _ (two _ _ _) un1
  have xd0 : ((w3.alloc (.cells #[.int .u64 bh, .int .u64 bl] 165)).alloc (.cells #[.int .u64 yh, .int .u64 yl] 165)).cell? ⟨w3.heap.size, 0, none⟩ = some (.int .u64 bh) := newC3 w3 _ _ _ 0
  have xd1 : ((w3.alloc (.cells #[.int .u64 bh, .int .u64 bl] 165)).alloc (.cells #[.int .u64 yh, .int .u64 yl] 165)).cell? ⟨w3.heap.size, 1, none⟩ = some (.int .u64 bl) := newC3 w3 _ _ _ 1
  have hB5 : Below w.heap.size w ((w3.alloc (.cells #[.int .u64 bh, .int .u64 bl] 165)).alloc (.cells #[.int .u64 yh, .int .u64 yl] 165)) := beyond hB4 (two _ _ _)
  clear u4 u5 uf0 uf1 un0 un1 hB4
  generalize ((w3.alloc (.cells #[.int .u64 bh, .int .u64 bl] 165)).alloc (.cells #[.int .u64 yh, .int .u64 yl] 165)) = W3 at *
  generalize w3.heap.size = bd at *
  have y4 : ∀ O, (W3.alloc O).cell? ⟨w.heap.size + 1 + 1, 0, none⟩ = some (.int .i64 0) := fun O => kc _ _ (single _ _) x4
  have y5 : ∀ O, (W3.alloc O).cell? ⟨w.heap.size + 1 + 1, 1, none⟩ = some (.int .i64 0) := fun O => kc _ _ (single _ _) x5
  have yn0 : ∀ O, (W3.alloc O).cell? ⟨bn, 0, none⟩ = some (.int .u64 0) := fun O => kc _ _ (single _ _) xn0
  have yn1 : ∀ O, (W3.alloc O).cell? ⟨bn, 1, none⟩ = some (.int .u64 al) := fun O => kc _ _ (single _ _) xn1
  have yf0 : ∀ O, (W3.alloc O).frozen? ⟨w.heap.size + 1 + 1, 0, none⟩ = false := fun O => kf _ _ (single _ _) x4 xf0
  have yf1 : ∀ O, (W3.alloc O).frozen? ⟨w.heap.size + 1 + 1, 1, none⟩ = false := fun O => kf _ _ (single _ _) x5 xf1
  have l3 : w.heap.size + 1 + 1 < W3.heap.size := World.block_lt_of_cell? _ _ x4
  have l4 : bn < W3.heap.size := World.block_lt_of_cell? _ _ xn0
  have m1 : ¬ W3.heap.size = w.heap.size + 1 + 1 := by omega
  have m2 : ¬ w.heap.size + 1 + 1 = W3.heap.size := by omega
  have m3 : ¬ W3.heap.size = bn := by omega
  have m4 : ¬ bn = W3.heap.size := by omega
  have HB6 := hideR (show ∀ O, Below w.heap.size w (W3.alloc O) from fun O => beyond hB5 (single _ _))
  have HB5 := hideR hB5
  clear l1 l3 l4 hB5
  go_wp2_with fail
  refine bodyPost_ret (v := trip (0, 0, 20)) (by simp [results, Tryz.results133, go_sem, *]) rfl ⟨rfl, ?_⟩
  first | exact set2 HB5.out (by omega) _ _ | exact set2 (HB6.out _) (by omega) _ _ | exact HB5.out | (refine set2 (Below.setCell (HB6.out _) ?_ _) (by omega) _ _; have := (HB6.out default).size; simp at this; omega) | trace_state
set_option maxRecDepth 100000 in
set_option maxHeartbeats 8000000 in
theorem xheld_h_true_f3 (ph pl qh ql gh gl al bh bl xh xl yh yl : Int) (w : World) (hq : ¬ qh = 0) (e2 : ¬ 9223372036854775808 < al) (hc : ¬ bh = 0)
    (HC : Hid (∀ w, Calls Tryz.prog 110 #[.agg #[.int .u64 ph, .int .u64 pl], .agg #[.int .u64 qh, .int .u64 ql]] w fun e w' => e = .returned (.agg #[.int .u64 gh, .int .u64 gl]) ∧ Below w.heap.size w w'))
    (HD1 : Hid (∀ w, Calls Tryz.prog 149 #[.agg #[.int .u64 ph, .int .u64 pl], .agg #[.int .u64 gh, .int .u64 gl]] w fun e w' => e = .returned (.tuple #[.agg #[.int .u64 0, .int .u64 al], .agg #[.int .u64 xh, .int .u64 xl]]) ∧ Below w.heap.size w w'))
    (HD2 : Hid (∀ w, Calls Tryz.prog 149 #[.agg #[.int .u64 qh, .int .u64 ql], .agg #[.int .u64 gh, .int .u64 gl]] w fun e w' => e = .returned (.tuple #[.agg #[.int .u64 bh, .int .u64 bl], .agg #[.int .u64 yh, .int .u64 yl]]) ∧ Below w.heap.size w w')) :
    Calls Tryz.prog 133 #[.bool true, .agg #[.int .u64 ph, .int .u64 pl], .agg #[.int .u64 qh, .int .u64 ql]] w fun e w' => e = .returned (trip (0, 0, 20)) ∧ Below w.heap.size w w' := by
  have n1 : ¬ w.heap.size = w.heap.size + 1 + 1 := by omega
  have n2 : ¬ w.heap.size + 1 + 1 = w.heap.size := by omega
  go_enter Tryz.func133, Tryz.ntmps133
  go_wp2_with fail
  refine (HC.out _).mono ?_
  rintro e w1 ⟨rfl, hb⟩
  have s0 := kc ⟨w.heap.size, 0, none⟩ (.int .u64 ph) hb (by first | assumption | simp [go_sem, *])
  have s1 := kc ⟨w.heap.size, 1, none⟩ (.int .u64 pl) hb (by first | assumption | simp [go_sem, *])
  have s2 := kc ⟨w.heap.size + 1, 0, none⟩ (.int .u64 qh) hb (by first | assumption | simp [go_sem, *])
  have s3 := kc ⟨w.heap.size + 1, 1, none⟩ (.int .u64 ql) hb (by first | assumption | simp [go_sem, *])
  have s4 := kc ⟨w.heap.size + 1 + 1, 0, none⟩ (.int .i64 0) hb (by first | assumption | simp [go_sem, *])
  have s5 := kc ⟨w.heap.size + 1 + 1, 1, none⟩ (.int .i64 0) hb (by first | assumption | simp [go_sem, *])
  have sf0 := kf ⟨w.heap.size + 1 + 1, 0, none⟩ (.int .i64 0) hb (by first | assumption | simp [go_sem, *]) (by first | assumption | simp [go_sem, *])
  have sf1 := kf ⟨w.heap.size + 1 + 1, 1, none⟩ (.int .i64 0) hb (by first | assumption | simp [go_sem, *]) (by first | assumption | simp [go_sem, *])
  have hB1 : Below w.heap.size w w1 := beyond (three w _ _ _) hb
  clear hb
  have l1 : w.heap.size + 1 + 1 < w1.heap.size := World.block_lt_of_cell? _ _ s4
  go_upto_region 4 with (fail)
  have t0 : (w1.alloc (.cells #[.int .u64 gh, .int .u64 gl] 165)).cell? ⟨w.heap.size, 0, none⟩ = some (.int .u64 ph) := kc _ _ (single _ _) s0
  have t1 : (w1.alloc (.cells #[.int .u64 gh, .int .u64 gl] 165)).cell? ⟨w.heap.size, 1, none⟩ = some (.int .u64 pl) := kc _ _ (single _ _) s1
  have t2 : (w1.alloc (.cells #[.int .u64 gh, .int .u64 gl] 165)).cell? ⟨w.heap.size + 1, 0, none⟩ = some (.int .u64 qh) := kc _ _ (single _ _) s2
  have t3 : (w1.alloc (.cells #[.int .u64 gh, .int .u64 gl] 165)).cell? ⟨w.heap.size + 1, 1, none⟩ = some (.int .u64 ql) := kc _ _ (single _ _) s3
  have t4 : (w1.alloc (.cells #[.int .u64 gh, .int .u64 gl] 165)).cell? ⟨w.heap.size + 1 + 1, 0, none⟩ = some (.int .i64 0) := kc _ _ (single _ _) s4
  have t5 : (w1.alloc (.cells #[.int .u64 gh, .int .u64 gl] 165)).cell? ⟨w.heap.size + 1 + 1, 1, none⟩ = some (.int .i64 0) := kc _ _ (single _ _) s5
  have tf0 : (w1.alloc (.cells #[.int .u64 gh, .int .u64 gl] 165)).frozen? ⟨w.heap.size + 1 + 1, 0, none⟩ = false := kf _ _ (single _ _) s4 sf0
  have tf1 : (w1.alloc (.cells #[.int .u64 gh, .int .u64 gl] 165)).frozen? ⟨w.heap.size + 1 + 1, 1, none⟩ = false := kf _ _ (single _ _) s5 sf1
  have tg0 : (w1.alloc (.cells #[.int .u64 gh, .int .u64 gl] 165)).cell? ⟨w1.heap.size, 0, none⟩ = some (.int .u64 gh) := new_cell w1 _ _ 0
  have tg1 : (w1.alloc (.cells #[.int .u64 gh, .int .u64 gl] 165)).cell? ⟨w1.heap.size, 1, none⟩ = some (.int .u64 gl) := new_cell w1 _ _ 1
  have hBG : Below w.heap.size w (w1.alloc (.cells #[.int .u64 gh, .int .u64 gl] 165)) := beyond hB1 (single _ _)
  clear s0 s1 s2 s3 s4 s5 sf0 sf1 hB1 HC
  generalize (w1.alloc (.cells #[.int .u64 gh, .int .u64 gl] 165)) = W1 at *
  generalize w1.heap.size = bg at *
  go_wp2_with fail
  refine (HD1.out _).mono ?_
  rintro e w2 ⟨rfl, hb⟩
  have u0 := kc _ _ hb t0
  have u1 := kc _ _ hb t1
  have u2 := kc _ _ hb t2
  have u3 := kc _ _ hb t3
  have u4 := kc _ _ hb t4
  have u5 := kc _ _ hb t5
  have uf0 := kf _ _ hb t4 tf0
  have uf1 := kf _ _ hb t5 tf1
  have ug0 := kc _ _ hb tg0
  have ug1 := kc _ _ hb tg1
  have hB2 : Below w.heap.size w w2 := beyond hBG hb
  clear hb t0 t1 t2 t3 t4 t5 tf0 tf1 tg0 tg1 hBG HD1
  go_upto_region 5 with (fail)
  have v0 : ((w2.alloc (.cells #[.int .u64 0, .int .u64 al] 165)).alloc (.cells #[.int .u64 xh, .int .u64 xl] 165)).cell? ⟨w.heap.size, 0, none⟩ = some (.int .u64 ph) := kc _ _ (two _ _ _) u0
  have v1 : ((w2.alloc (.cells #[.int .u64 0, .int .u64 al] 165)).alloc (.cells #[.int .u64 xh, .int .u64 xl] 165)).cell? ⟨w.heap.size, 1, none⟩ = some (.int .u64 pl) := kc _ _ (two _ _ _) u1
  have v2 : ((w2.alloc (.cells #[.int .u64 0, .int .u64 al] 165)).alloc (.cells #[.int .u64 xh, .int .u64 xl] 165)).cell? ⟨w.heap.size + 1, 0, none⟩ = some (.int .u64 qh) := kc _ _ (two _ _ _) u2
  have v3 : ((w2.alloc (.cells #[.int .u64 0, .int .u64 al] 165)).alloc (.cells #[.int .u64 xh, .int .u64 xl] 165)).cell? ⟨w.heap.size + 1, 1, none⟩ = some (.int .u64 ql) := kc _ _ (two _ _ _) u3
  have v4 : ((w2.alloc (.cells #[.int .u64 0, .int .u64 al] 165)).alloc (.cells #[.int .u64 xh, .int .u64 xl] 165)).cell? ⟨w.heap.size + 1 + 1, 0, none⟩ = some (.int .i64 0) := kc _ _ (two _ _ _) u4
  have v5 : ((w2.alloc (.cells #[.int .u64 0, .int .u64 al] 165)).alloc (.cells #[.int .u64 xh, .int .u64 xl] 165)).cell? ⟨w.heap.size + 1 + 1, 1, none⟩ = some (.int .i64 0) := kc _ _ (two _ _ _) u5
  have vf0 : ((w2.alloc (.cells #[.int .u64 0, .int .u64 al] 165)).alloc (.cells #[.int .u64 xh, .int .u64 xl] 165)).frozen? ⟨w.heap.size + 1 + 1, 0, none⟩ = false := kf _ _ (two _ _ _) u4 uf0
  have vf1 : ((w2.alloc (.cells #[.int .u64 0, .int .u64 al] 165)).alloc (.cells #[.int .u64 xh, .int .u64 xl] 165)).frozen? ⟨w.heap.size + 1 + 1, 1, none⟩ = false := kf _ _ (two _ _ _) u5 uf1
  have vg0 : ((w2.alloc (.cells #[.int .u64 0, .int .u64 al] 165)).alloc (.cells #[.int .u64 xh, .int .u64 xl] 165)).cell? ⟨bg, 0, none⟩ = some (.int .u64 gh) := kc _ _ (two _ _ _) ug0
  have vg1 : ((w2.alloc (.cells #[.int .u64 0, .int .u64 al] 165)).alloc (.cells #[.int .u64 xh, .int .u64 xl] 165)).cell? ⟨bg, 1, none⟩ = some (.int .u64 gl) := kc _ _ (two _ _ _) ug1
  have vn0 : ((w2.alloc (.cells #[.int .u64 0, .int .u64 al] 165)).alloc (.cells #[.int .u64 xh, .int .u64 xl] 165)).cell? ⟨w2.heap.size, 0, none⟩ = some (.int .u64 0) := newC3 w2 _ _ _ 0
  have vn1 : ((w2.alloc (.cells #[.int .u64 0, .int .u64 al] 165)).alloc (.cells #[.int .u64 xh, .int .u64 xl] 165)).cell? ⟨w2.heap.size, 1, none⟩ = some (.int .u64 al) := newC3 w2 _ _ _ 1
  have hB3 : Below w.heap.size w ((w2.alloc (.cells #[.int .u64 0, .int .u64 al] 165)).alloc (.cells #[.int .u64 xh, .int .u64 xl] 165)) := beyond hB2 (two _ _ _)
  clear u0 u1 u2 u3 u4 u5 uf0 uf1 ug0 ug1 hB2
  generalize ((w2.alloc (.cells #[.int .u64 0, .int .u64 al] 165)).alloc (.cells #[.int .u64 xh, .int .u64 xl] 165)) = W2 at *
  generalize w2.heap.size = bn at *
  go_wp2_with fail
  refine (HD2.out _).mono ?_
  rintro e w3 ⟨rfl, hb⟩
  have u4 := kc _ _ hb v4
  have u5 := kc _ _ hb v5
  have uf0 := kf _ _ hb v4 vf0
  have uf1 := kf _ _ hb v5 vf1
  have un0 := kc _ _ hb vn0
  have un1 := kc _ _ hb vn1
  have hB4 : Below w.heap.size w w3 := beyond hB3 hb
  clear hb v0 v1 v2 v3 v4 v5 vf0 vf1 vg0 vg1 vn0 vn1 hB3 HD2 hq
  go_upto_region 6 with (fail)
  have x4 : ((w3.alloc (.cells #[.int .u64 bh, .int .u64 bl] 165)).alloc (.cells #[.int .u64 yh, .int .u64 yl] 165)).cell? ⟨w.heap.size + 1 + 1, 0, none⟩ = some (.int .i64 0) := kc _ _ (two _ _ _) u4
  have x5 : ((w3.alloc (.cells #[.int .u64 bh, .int .u64 bl] 165)).alloc (.cells #[.int .u64 yh, .int .u64 yl] 165)).cell? ⟨w.heap.size + 1 + 1, 1, none⟩ = some (.int .i64 0) := kc _ _ (two _ _ _) u5
  have xf0 : ((w3.alloc (.cells #[.int .u64 bh, .int .u64 bl] 165)).alloc (.cells #[.int .u64 yh, .int .u64 yl] 165)).frozen? ⟨w.heap.size + 1 + 1, 0, none⟩ = false := kf _ _ (two _ _ _) u4 uf0
  have xf1 : ((w3.alloc (.cells #[.int .u64 bh, .int .u64 bl] 165)).alloc (.cells #[.int .u64 yh, .int .u64 yl] 165)).frozen? ⟨w.heap.size + 1 + 1, 1, none⟩ = false := kf _ _ (two _ _ _) u5 uf1
  have xn0 : ((w3.alloc (.cells #[.int .u64 bh, .int .u64 bl] 165)).alloc (.cells #[.int .u64 yh, .int .u64 yl] 165)).cell? ⟨bn, 0, none⟩ = some (.int .u64 0) := kc _ _ (two _ _ _) un0
  have xn1 : ((w3.alloc (.cells #[.int .u64 bh, .int .u64 bl] 165)).alloc (.cells #[.int .u64 yh, .int .u64 yl] 165)).cell? ⟨bn, 1, none⟩ = some (.int .u64 al) := kc _ _ (two _ _ _) un1
  have xd0 : ((w3.alloc (.cells #[.int .u64 bh, .int .u64 bl] 165)).alloc (.cells #[.int .u64 yh, .int .u64 yl] 165)).cell? ⟨w3.heap.size, 0, none⟩ = some (.int .u64 bh) := newC3 w3 _ _ _ 0
  have xd1 : ((w3.alloc (.cells #[.int .u64 bh, .int .u64 bl] 165)).alloc (.cells #[.int .u64 yh, .int .u64 yl] 165)).cell? ⟨w3.heap.size, 1, none⟩ = some (.int .u64 bl) := newC3 w3 _ _ _ 1
  have hB5 : Below w.heap.size w ((w3.alloc (.cells #[.int .u64 bh, .int .u64 bl] 165)).alloc (.cells #[.int .u64 yh, .int .u64 yl] 165)) := beyond hB4 (two _ _ _)
  clear u4 u5 uf0 uf1 un0 un1 hB4
  generalize ((w3.alloc (.cells #[.int .u64 bh, .int .u64 bl] 165)).alloc (.cells #[.int .u64 yh, .int .u64 yl] 165)) = W3 at *
  generalize w3.heap.size = bd at *
  have y4 : ∀ O, (W3.alloc O).cell? ⟨w.heap.size + 1 + 1, 0, none⟩ = some (.int .i64 0) := fun O => kc _ _ (single _ _) x4
  have y5 : ∀ O, (W3.alloc O).cell? ⟨w.heap.size + 1 + 1, 1, none⟩ = some (.int .i64 0) := fun O => kc _ _ (single _ _) x5
  have yn0 : ∀ O, (W3.alloc O).cell? ⟨bn, 0, none⟩ = some (.int .u64 0) := fun O => kc _ _ (single _ _) xn0
  have yn1 : ∀ O, (W3.alloc O).cell? ⟨bn, 1, none⟩ = some (.int .u64 al) := fun O => kc _ _ (single _ _) xn1
  have yf0 : ∀ O, (W3.alloc O).frozen? ⟨w.heap.size + 1 + 1, 0, none⟩ = false := fun O => kf _ _ (single _ _) x4 xf0
  have yf1 : ∀ O, (W3.alloc O).frozen? ⟨w.heap.size + 1 + 1, 1, none⟩ = false := fun O => kf _ _ (single _ _) x5 xf1
  have l3 : w.heap.size + 1 + 1 < W3.heap.size := World.block_lt_of_cell? _ _ x4
  have l4 : bn < W3.heap.size := World.block_lt_of_cell? _ _ xn0
  have m1 : ¬ W3.heap.size = w.heap.size + 1 + 1 := by omega
  have m2 : ¬ w.heap.size + 1 + 1 = W3.heap.size := by omega
  have m3 : ¬ W3.heap.size = bn := by omega
  have m4 : ¬ bn = W3.heap.size := by omega
  have HB6 := hideR (show ∀ O, Below w.heap.size w (W3.alloc O) from fun O => beyond hB5 (single _ _))
  have HB5 := hideR hB5
  clear l1 l3 l4 hB5
  go_wp2_with fail
  refine bodyPost_ret (v := trip (0, 0, 20)) (by simp [results, Tryz.results133, go_sem, *]) rfl ⟨rfl, ?_⟩
  first | exact set2 HB5.out (by omega) _ _ | exact set2 (HB6.out _) (by omega) _ _ | exact HB5.out | (refine set2 (Below.setCell (HB6.out _) ?_ _) (by omega) _ _; have := (HB6.out default).size; simp at this; omega) | trace_state
set_option maxRecDepth 100000 in
set_option maxHeartbeats 8000000 in
theorem xheld_h_true_f4 (ph pl qh ql gh gl al bl xh xl yh yl : Int) (w : World) (hq : ¬ qh = 0) (e2 : ¬ 9223372036854775808 < al) (hc : 9223372036854775807 < bl)
    (HC : Hid (∀ w, Calls Tryz.prog 110 #[.agg #[.int .u64 ph, .int .u64 pl], .agg #[.int .u64 qh, .int .u64 ql]] w fun e w' => e = .returned (.agg #[.int .u64 gh, .int .u64 gl]) ∧ Below w.heap.size w w'))
    (HD1 : Hid (∀ w, Calls Tryz.prog 149 #[.agg #[.int .u64 ph, .int .u64 pl], .agg #[.int .u64 gh, .int .u64 gl]] w fun e w' => e = .returned (.tuple #[.agg #[.int .u64 0, .int .u64 al], .agg #[.int .u64 xh, .int .u64 xl]]) ∧ Below w.heap.size w w'))
    (HD2 : Hid (∀ w, Calls Tryz.prog 149 #[.agg #[.int .u64 qh, .int .u64 ql], .agg #[.int .u64 gh, .int .u64 gl]] w fun e w' => e = .returned (.tuple #[.agg #[.int .u64 0, .int .u64 bl], .agg #[.int .u64 yh, .int .u64 yl]]) ∧ Below w.heap.size w w')) :
    Calls Tryz.prog 133 #[.bool true, .agg #[.int .u64 ph, .int .u64 pl], .agg #[.int .u64 qh, .int .u64 ql]] w fun e w' => e = .returned (trip (0, 0, 20)) ∧ Below w.heap.size w w' := by
  have n1 : ¬ w.heap.size = w.heap.size + 1 + 1 := by omega
  have n2 : ¬ w.heap.size + 1 + 1 = w.heap.size := by omega
  go_enter Tryz.func133, Tryz.ntmps133
  go_wp2_with fail
  refine (HC.out _).mono ?_
  rintro e w1 ⟨rfl, hb⟩
  have s0 := kc ⟨w.heap.size, 0, none⟩ (.int .u64 ph) hb (by first | assumption | simp [go_sem, *])
  have s1 := kc ⟨w.heap.size, 1, none⟩ (.int .u64 pl) hb (by first | assumption | simp [go_sem, *])
  have s2 := kc ⟨w.heap.size + 1, 0, none⟩ (.int .u64 qh) hb (by first | assumption | simp [go_sem, *])
  have s3 := kc ⟨w.heap.size + 1, 1, none⟩ (.int .u64 ql) hb (by first | assumption | simp [go_sem, *])
  have s4 := kc ⟨w.heap.size + 1 + 1, 0, none⟩ (.int .i64 0) hb (by first | assumption | simp [go_sem, *])
  have s5 := kc ⟨w.heap.size + 1 + 1, 1, none⟩ (.int .i64 0) hb (by first | assumption | simp [go_sem, *])
  have sf0 := kf ⟨w.heap.size + 1 + 1, 0, none⟩ (.int .i64 0) hb (by first | assumption | simp [go_sem, *]) (by first | assumption | simp [go_sem, *])
  have sf1 := kf ⟨w.heap.size + 1 + 1, 1, none⟩ (.int .i64 0) hb (by first | assumption | simp [go_sem, *]) (by first | assumption | simp [go_sem, *])
  have hB1 : Below w.heap.size w w1 := beyond (three w _ _ _) hb
  clear hb
  have l1 : w.heap.size + 1 + 1 < w1.heap.size := World.block_lt_of_cell? _ _ s4
  go_upto_region 4 with (fail)
  have t0 : (w1.alloc (.cells #[.int .u64 gh, .int .u64 gl] 165)).cell? ⟨w.heap.size, 0, none⟩ = some (.int .u64 ph) := kc _ _ (single _ _) s0
  have t1 : (w1.alloc (.cells #[.int .u64 gh, .int .u64 gl] 165)).cell? ⟨w.heap.size, 1, none⟩ = some (.int .u64 pl) := kc _ _ (single _ _) s1
  have t2 : (w1.alloc (.cells #[.int .u64 gh, .int .u64 gl] 165)).cell? ⟨w.heap.size + 1, 0, none⟩ = some (.int .u64 qh) := kc _ _ (single _ _) s2
  have t3 : (w1.alloc (.cells #[.int .u64 gh, .int .u64 gl] 165)).cell? ⟨w.heap.size + 1, 1, none⟩ = some (.int .u64 ql) := kc _ _ (single _ _) s3
  have t4 : (w1.alloc (.cells #[.int .u64 gh, .int .u64 gl] 165)).cell? ⟨w.heap.size + 1 + 1, 0, none⟩ = some (.int .i64 0) := kc _ _ (single _ _) s4
  have t5 : (w1.alloc (.cells #[.int .u64 gh, .int .u64 gl] 165)).cell? ⟨w.heap.size + 1 + 1, 1, none⟩ = some (.int .i64 0) := kc _ _ (single _ _) s5
  have tf0 : (w1.alloc (.cells #[.int .u64 gh, .int .u64 gl] 165)).frozen? ⟨w.heap.size + 1 + 1, 0, none⟩ = false := kf _ _ (single _ _) s4 sf0
  have tf1 : (w1.alloc (.cells #[.int .u64 gh, .int .u64 gl] 165)).frozen? ⟨w.heap.size + 1 + 1, 1, none⟩ = false := kf _ _ (single _ _) s5 sf1
  have tg0 : (w1.alloc (.cells #[.int .u64 gh, .int .u64 gl] 165)).cell? ⟨w1.heap.size, 0, none⟩ = some (.int .u64 gh) := new_cell w1 _ _ 0
  have tg1 : (w1.alloc (.cells #[.int .u64 gh, .int .u64 gl] 165)).cell? ⟨w1.heap.size, 1, none⟩ = some (.int .u64 gl) := new_cell w1 _ _ 1
  have hBG : Below w.heap.size w (w1.alloc (.cells #[.int .u64 gh, .int .u64 gl] 165)) := beyond hB1 (single _ _)
  clear s0 s1 s2 s3 s4 s5 sf0 sf1 hB1 HC
  generalize (w1.alloc (.cells #[.int .u64 gh, .int .u64 gl] 165)) = W1 at *
  generalize w1.heap.size = bg at *
  go_wp2_with fail
  refine (HD1.out _).mono ?_
  rintro e w2 ⟨rfl, hb⟩
  have u0 := kc _ _ hb t0
  have u1 := kc _ _ hb t1
  have u2 := kc _ _ hb t2
  have u3 := kc _ _ hb t3
  have u4 := kc _ _ hb t4
  have u5 := kc _ _ hb t5
  have uf0 := kf _ _ hb t4 tf0
  have uf1 := kf _ _ hb t5 tf1
  have ug0 := kc _ _ hb tg0
  have ug1 := kc _ _ hb tg1
  have hB2 : Below w.heap.size w w2 := beyond hBG hb
  clear hb t0 t1 t2 t3 t4 t5 tf0 tf1 tg0 tg1 hBG HD1
  go_upto_region 5 with (fail)
  have v0 : ((w2.alloc (.cells #[.int .u64 0, .int .u64 al] 165)).alloc (.cells #[.int .u64 xh, .int .u64 xl] 165)).cell? ⟨w.heap.size, 0, none⟩ = some (.int .u64 ph) := kc _ _ (two _ _ _) u0
  have v1 : ((w2.alloc (.cells #[.int .u64 0, .int .u64 al] 165)).alloc (.cells #[.int .u64 xh, .int .u64 xl] 165)).cell? ⟨w.heap.size, 1, none⟩ = some (.int .u64 pl) := kc _ _ (two _ _ _) u1
  have v2 : ((w2.alloc (.cells #[.int .u64 0, .int .u64 al] 165)).alloc (.cells #[.int .u64 xh, .int .u64 xl] 165)).cell? ⟨w.heap.size + 1, 0, none⟩ = some (.int .u64 qh) := kc _ _ (two _ _ _) u2
  have v3 : ((w2.alloc (.cells #[.int .u64 0, .int .u64 al] 165)).alloc (.cells #[.int .u64 xh, .int .u64 xl] 165)).cell? ⟨w.heap.size + 1, 1, none⟩ = some (.int .u64 ql) := kc _ _ (two _ _ _) u3
  have v4 : ((w2.alloc (.cells #[.int .u64 0, .int .u64 al] 165)).alloc (.cells #[.int .u64 xh, .int .u64 xl] 165)).cell? ⟨w.heap.size + 1 + 1, 0, none⟩ = some (.int .i64 0) := kc _ _ (two _ _ _) u4
  have v5 : ((w2.alloc (.cells #[.int .u64 0, .int .u64 al] 165)).alloc (.cells #[.int .u64 xh, .int .u64 xl] 165)).cell? ⟨w.heap.size + 1 + 1, 1, none⟩ = some (.int .i64 0) := kc _ _ (two _ _ _) u5
  have vf0 : ((w2.alloc (.cells #[.int .u64 0, .int .u64 al] 165)).alloc (.cells #[.int .u64 xh, .int .u64 xl] 165)).frozen? ⟨w.heap.size + 1 + 1, 0, none⟩ = false := kf _ _ (two _ _ _) u4 uf0
  have vf1 : ((w2.alloc (.cells #[.int .u64 0, .int .u64 al] 165)).alloc (.cells #[.int .u64 xh, .int .u64 xl] 165)).frozen? ⟨w.heap.size + 1 + 1, 1, none⟩ = false := kf _ _ (two _ _ _) u5 uf1
  have vg0 : ((w2.alloc (.cells #[.int .u64 0, .int .u64 al] 165)).alloc (.cells #[.int .u64 xh, .int .u64 xl] 165)).cell? ⟨bg, 0, none⟩ = some (.int .u64 gh) := kc _ _ (two _ _ _) ug0
  have vg1 : ((w2.alloc (.cells #[.int .u64 0, .int .u64 al] 165)).alloc (.cells #[.int .u64 xh, .int .u64 xl] 165)).cell? ⟨bg, 1, none⟩ = some (.int .u64 gl) := kc _ _ (two _ _ _) ug1
  have vn0 : ((w2.alloc (.cells #[.int .u64 0, .int .u64 al] 165)).alloc (.cells #[.int .u64 xh, .int .u64 xl] 165)).cell? ⟨w2.heap.size, 0, none⟩ = some (.int .u64 0) := newC3 w2 _ _ _ 0
  have vn1 : ((w2.alloc (.cells #[.int .u64 0, .int .u64 al] 165)).alloc (.cells #[.int .u64 xh, .int .u64 xl] 165)).cell? ⟨w2.heap.size, 1, none⟩ = some (.int .u64 al) := newC3 w2 _ _ _ 1
  have hB3 : Below w.heap.size w ((w2.alloc (.cells #[.int .u64 0, .int .u64 al] 165)).alloc (.cells #[.int .u64 xh, .int .u64 xl] 165)) := beyond hB2 (two _ _ _)
  clear u0 u1 u2 u3 u4 u5 uf0 uf1 ug0 ug1 hB2
  generalize ((w2.alloc (.cells #[.int .u64 0, .int .u64 al] 165)).alloc (.cells #[.int .u64 xh, .int .u64 xl] 165)) = W2 at *
  generalize w2.heap.size = bn at *
  go_wp2_with fail
  refine (HD2.out _).mono ?_
  rintro e w3 ⟨rfl, hb⟩
  have u4 := kc _ _ hb v4
  have u5 := kc _ _ hb v5
  have uf0 := kf _ _ hb v4 vf0
  have uf1 := kf _ _ hb v5 vf1
  have un0 := kc _ _ hb vn0
  have un1 := kc _ _ hb vn1
  have hB4 : Below w.heap.size w w3 := beyond hB3 hb
  clear hb v0 v1 v2 v3 v4 v5 vf0 vf1 vg0 vg1 vn0 vn1 hB3 HD2 hq
  go_upto_region 6 with (fail)
  have x4 : ((w3.alloc (.cells #[.int .u64 0, .int .u64 bl] 165)).alloc (.cells #[.int .u64 yh, .int .u64 yl] 165)).cell? ⟨w.heap.size + 1 + 1, 0, none⟩ = some (.int .i64 0) := kc _ _ (two _ _ _) u4
  have x5 : ((w3.alloc (.cells #[.int .u64 0, .int .u64 bl] 165)).alloc (.cells #[.int .u64 yh, .int .u64 yl] 165)).cell? ⟨w.heap.size + 1 + 1, 1, none⟩ = some (.int .i64 0) := kc _ _ (two _ _ _) u5
  have xf0 : ((w3.alloc (.cells #[.int .u64 0, .int .u64 bl] 165)).alloc (.cells #[.int .u64 yh, .int .u64 yl] 165)).frozen? ⟨w.heap.size + 1 + 1, 0, none⟩ = false := kf _ _ (two _ _ _) u4 uf0
  have xf1 : ((w3.alloc (.cells #[.int .u64 0, .int .u64 bl] 165)).alloc (.cells #[.int .u64 yh, .int .u64 yl] 165)).frozen? ⟨w.heap.size + 1 + 1, 1, none⟩ = false := kf _ _ (two _ _ _) u5 uf1
  have xn0 : ((w3.alloc (.cells #[.int .u64 0, .int .u64 bl] 165)).alloc (.cells #[.int .u64 yh, .int .u64 yl] 165)).cell? ⟨bn, 0, none⟩ = some (.int .u64 0) := kc _ _ (two _ _ _) un0
  have xn1 : ((w3.alloc (.cells #[.int .u64 0, .int .u64 bl] 165)).alloc (.cells #[.int .u64 yh, .int .u64 yl] 165)).cell? ⟨bn, 1, none⟩ = some (.int .u64 al) := kc _ _ (two _ _ _) un1
  have xd0 : ((w3.alloc (.cells #[.int .u64 0, .int .u64 bl] 165)).alloc (.cells #[.int .u64 yh, .int .u64 yl] 165)).cell? ⟨w3.heap.size, 0, none⟩ = some (.int .u64 0) := newC3 w3 _ _ _ 0
  have xd1 : ((w3.alloc (.cells #[.int .u64 0, .int .u64 bl] 165)).alloc (.cells #[.int .u64 yh, .int .u64 yl] 165)).cell? ⟨w3.heap.size, 1, none⟩ = some (.int .u64 bl) := newC3 w3 _ _ _ 1
  have hB5 : Below w.heap.size w ((w3.alloc (.cells #[.int .u64 0, .int .u64 bl] 165)).alloc (.cells #[.int .u64 yh, .int .u64 yl] 165)) := beyond hB4 (two _ _ _)
  clear u4 u5 uf0 uf1 un0 un1 hB4
  generalize ((w3.alloc (.cells #[.int .u64 0, .int .u64 bl] 165)).alloc (.cells #[.int .u64 yh, .int .u64 yl] 165)) = W3 at *
  generalize w3.heap.size = bd at *
  have y4 : ∀ O, (W3.alloc O).cell? ⟨w.heap.size + 1 + 1, 0, none⟩ = some (.int .i64 0) := fun O => kc _ _ (single _ _) x4
  have y5 : ∀ O, (W3.alloc O).cell? ⟨w.heap.size + 1 + 1, 1, none⟩ = some (.int .i64 0) := fun O => kc _ _ (single _ _) x5
  have yn0 : ∀ O, (W3.alloc O).cell? ⟨bn, 0, none⟩ = some (.int .u64 0) := fun O => kc _ _ (single _ _) xn0
  have yn1 : ∀ O, (W3.alloc O).cell? ⟨bn, 1, none⟩ = some (.int .u64 al) := fun O => kc _ _ (single _ _) xn1
  have yf0 : ∀ O, (W3.alloc O).frozen? ⟨w.heap.size + 1 + 1, 0, none⟩ = false := fun O => kf _ _ (single _ _) x4 xf0
  have yf1 : ∀ O, (W3.alloc O).frozen? ⟨w.heap.size + 1 + 1, 1, none⟩ = false := fun O => kf _ _ (single _ _) x5 xf1
  have l3 : w.heap.size + 1 + 1 < W3.heap.size := World.block_lt_of_cell? _ _ x4
  have l4 : bn < W3.heap.size := World.block_lt_of_cell? _ _ xn0
  have m1 : ¬ W3.heap.size = w.heap.size + 1 + 1 := by omega
  have m2 : ¬ w.heap.size + 1 + 1 = W3.heap.size := by omega
  have m3 : ¬ W3.heap.size = bn := by omega
  have m4 : ¬ bn = W3.heap.size := by omega
  have HB6 := hideR (show ∀ O, Below w.heap.size w (W3.alloc O) from fun O => beyond hB5 (single _ _))
  have HB5 := hideR hB5
  clear l1 l3 l4 hB5
  go_wp2_with fail
  refine bodyPost_ret (v := trip (0, 0, 20)) (by simp [results, Tryz.results133, go_sem, *]) rfl ⟨rfl, ?_⟩
  first | exact set2 HB5.out (by omega) _ _ | exact set2 (HB6.out _) (by omega) _ _ | exact HB5.out | (refine set2 (Below.setCell (HB6.out _) ?_ _) (by omega) _ _; have := (HB6.out default).size; simp at this; omega) | trace_state
set_option maxRecDepth 100000 in
set_option maxHeartbeats 8000000 in
theorem xheld_h_true_ok (ph pl qh ql gh gl al bl xh xl yh yl : Int) (w : World) (hq : ¬ qh = 0) (nn : Int) (e2 : ¬ 9223372036854775808 < al) (hc : ¬ 9223372036854775807 < bl) (z1 : IntKind.i64.wrap bl = bl) (z2 : IntKind.i64.wrap (IntKind.u64.wrap (-al)) = nn)
    (HC : Hid (∀ w, Calls Tryz.prog 110 #[.agg #[.int .u64 ph, .int .u64 pl], .agg #[.int .u64 qh, .int .u64 ql]] w fun e w' => e = .returned (.agg #[.int .u64 gh, .int .u64 gl]) ∧ Below w.heap.size w w'))
    (HD1 : Hid (∀ w, Calls Tryz.prog 149 #[.agg #[.int .u64 ph, .int .u64 pl], .agg #[.int .u64 gh, .int .u64 gl]] w fun e w' => e = .returned (.tuple #[.agg #[.int .u64 0, .int .u64 al], .agg #[.int .u64 xh, .int .u64 xl]]) ∧ Below w.heap.size w w'))
    (HD2 : Hid (∀ w, Calls Tryz.prog 149 #[.agg #[.int .u64 qh, .int .u64 ql], .agg #[.int .u64 gh, .int .u64 gl]] w fun e w' => e = .returned (.tuple #[.agg #[.int .u64 0, .int .u64 bl], .agg #[.int .u64 yh, .int .u64 yl]]) ∧ Below w.heap.size w w')) :
    Calls Tryz.prog 133 #[.bool true, .agg #[.int .u64 ph, .int .u64 pl], .agg #[.int .u64 qh, .int .u64 ql]] w fun e w' => e = .returned (trip (nn, bl, 0)) ∧ Below w.heap.size w w' := by
  have n1 : ¬ w.heap.size = w.heap.size + 1 + 1 := by omega
  have n2 : ¬ w.heap.size + 1 + 1 = w.heap.size := by omega
  go_enter Tryz.func133, Tryz.ntmps133
  go_wp2_with fail
  refine (HC.out _).mono ?_
  rintro e w1 ⟨rfl, hb⟩
  have s0 := kc ⟨w.heap.size, 0, none⟩ (.int .u64 ph) hb (by first | assumption | simp [go_sem, *])
  have s1 := kc ⟨w.heap.size, 1, none⟩ (.int .u64 pl) hb (by first | assumption | simp [go_sem, *])
  have s2 := kc ⟨w.heap.size + 1, 0, none⟩ (.int .u64 qh) hb (by first | assumption | simp [go_sem, *])
  have s3 := kc ⟨w.heap.size + 1, 1, none⟩ (.int .u64 ql) hb (by first | assumption | simp [go_sem, *])
  have s4 := kc ⟨w.heap.size + 1 + 1, 0, none⟩ (.int .i64 0) hb (by first | assumption | simp [go_sem, *])
  have s5 := kc ⟨w.heap.size + 1 + 1, 1, none⟩ (.int .i64 0) hb (by first | assumption | simp [go_sem, *])
  have sf0 := kf ⟨w.heap.size + 1 + 1, 0, none⟩ (.int .i64 0) hb (by first | assumption | simp [go_sem, *]) (by first | assumption | simp [go_sem, *])
  have sf1 := kf ⟨w.heap.size + 1 + 1, 1, none⟩ (.int .i64 0) hb (by first | assumption | simp [go_sem, *]) (by first | assumption | simp [go_sem, *])
  have hB1 : Below w.heap.size w w1 := beyond (three w _ _ _) hb
  clear hb
  have l1 : w.heap.size + 1 + 1 < w1.heap.size := World.block_lt_of_cell? _ _ s4
  go_upto_region 4 with (fail)
  have t0 : (w1.alloc (.cells #[.int .u64 gh, .int .u64 gl] 165)).cell? ⟨w.heap.size, 0, none⟩ = some (.int .u64 ph) := kc _ _ (single _ _) s0
  have t1 : (w1.alloc (.cells #[.int .u64 gh, .int .u64 gl] 165)).cell? ⟨w.heap.size, 1, none⟩ = some (.int .u64 pl) := kc _ _ (single _ _) s1
  have t2 : (w1.alloc (.cells #[.int .u64 gh, .int .u64 gl] 165)).cell? ⟨w.heap.size + 1, 0, none⟩ = some (.int .u64 qh) := kc _ _ (single _ _) s2
  have t3 : (w1.alloc (.cells #[.int .u64 gh, .int .u64 gl] 165)).cell? ⟨w.heap.size + 1, 1, none⟩ = some (.int .u64 ql) := kc _ _ (single _ _) s3
  have t4 : (w1.alloc (.cells #[.int .u64 gh, .int .u64 gl] 165)).cell? ⟨w.heap.size + 1 + 1, 0, none⟩ = some (.int .i64 0) := kc _ _ (single _ _) s4
  have t5 : (w1.alloc (.cells #[.int .u64 gh, .int .u64 gl] 165)).cell? ⟨w.heap.size + 1 + 1, 1, none⟩ = some (.int .i64 0) := kc _ _ (single _ _) s5
  have tf0 : (w1.alloc (.cells #[.int .u64 gh, .int .u64 gl] 165)).frozen? ⟨w.heap.size + 1 + 1, 0, none⟩ = false := kf _ _ (single _ _) s4 sf0
  have tf1 : (w1.alloc (.cells #[.int .u64 gh, .int .u64 gl] 165)).frozen? ⟨w.heap.size + 1 + 1, 1, none⟩ = false := kf _ _ (single _ _) s5 sf1
  have tg0 : (w1.alloc (.cells #[.int .u64 gh, .int .u64 gl] 165)).cell? ⟨w1.heap.size, 0, none⟩ = some (.int .u64 gh) := new_cell w1 _ _ 0
  have tg1 : (w1.alloc (.cells #[.int .u64 gh, .int .u64 gl] 165)).cell? ⟨w1.heap.size, 1, none⟩ = some (.int .u64 gl) := new_cell w1 _ _ 1
  have hBG : Below w.heap.size w (w1.alloc (.cells #[.int .u64 gh, .int .u64 gl] 165)) := beyond hB1 (single _ _)
  clear s0 s1 s2 s3 s4 s5 sf0 sf1 hB1 HC
  generalize (w1.alloc (.cells #[.int .u64 gh, .int .u64 gl] 165)) = W1 at *
  generalize w1.heap.size = bg at *
  go_wp2_with fail
  refine (HD1.out _).mono ?_
  rintro e w2 ⟨rfl, hb⟩
  have u0 := kc _ _ hb t0
  have u1 := kc _ _ hb t1
  have u2 := kc _ _ hb t2
  have u3 := kc _ _ hb t3
  have u4 := kc _ _ hb t4
  have u5 := kc _ _ hb t5
  have uf0 := kf _ _ hb t4 tf0
  have uf1 := kf _ _ hb t5 tf1
  have ug0 := kc _ _ hb tg0
  have ug1 := kc _ _ hb tg1
  have hB2 : Below w.heap.size w w2 := beyond hBG hb
  clear hb t0 t1 t2 t3 t4 t5 tf0 tf1 tg0 tg1 hBG HD1
  go_upto_region 5 with (fail)
  have v0 : ((w2.alloc (.cells #[.int .u64 0, .int .u64 al] 165)).alloc (.cells #[.int .u64 xh, .int .u64 xl] 165)).cell? ⟨w.heap.size, 0, none⟩ = some (.int .u64 ph) := kc _ _ (two _ _ _) u0
  have v1 : ((w2.alloc (.cells #[.int .u64 0, .int .u64 al] 165)).alloc (.cells #[.int .u64 xh, .int .u64 xl] 165)).cell? ⟨w.heap.size, 1, none⟩ = some (.int .u64 pl) := kc _ _ (two _ _ _) u1
  have v2 : ((w2.alloc (.cells #[.int .u64 0, .int .u64 al] 165)).alloc (.cells #[.int .u64 xh, .int .u64 xl] 165)).cell? ⟨w.heap.size + 1, 0, none⟩ = some (.int .u64 qh) := kc _ _ (two _ _ _) u2
  have v3 : ((w2.alloc (.cells #[.int .u64 0, .int .u64 al] 165)).alloc (.cells #[.int .u64 xh, .int .u64 xl] 165)).cell? ⟨w.heap.size + 1, 1, none⟩ = some (.int .u64 ql) := kc _ _ (two _ _ _) u3
  have v4 : ((w2.alloc (.cells #[.int .u64 0, .int .u64 al] 165)).alloc (.cells #[.int .u64 xh, .int .u64 xl] 165)).cell? ⟨w.heap.size + 1 + 1, 0, none⟩ = some (.int .i64 0) := kc _ _ (two _ _ _) u4
  have v5 : ((w2.alloc (.cells #[.int .u64 0, .int .u64 al] 165)).alloc (.cells #[.int .u64 xh, .int .u64 xl] 165)).cell? ⟨w.heap.size + 1 + 1, 1, none⟩ = some (.int .i64 0) := kc _ _ (two _ _ _) u5
  have vf0 : ((w2.alloc (.cells #[.int .u64 0, .int .u64 al] 165)).alloc (.cells #[.int .u64 xh, .int .u64 xl] 165)).frozen? ⟨w.heap.size + 1 + 1, 0, none⟩ = false := kf _ _ (two _ _ _) u4 uf0
  have vf1 : ((w2.alloc (.cells #[.int .u64 0, .int .u64 al] 165)).alloc (.cells #[.int .u64 xh, .int .u64 xl] 165)).frozen? ⟨w.heap.size + 1 + 1, 1, none⟩ = false := kf _ _ (two _ _ _) u5 uf1
  have vg0 : ((w2.alloc (.cells #[.int .u64 0, .int .u64 al] 165)).alloc (.cells #[.int .u64 xh, .int .u64 xl] 165)).cell? ⟨bg, 0, none⟩ = some (.int .u64 gh) := kc _ _ (two _ _ _) ug0
  have vg1 : ((w2.alloc (.cells #[.int .u64 0, .int .u64 al] 165)).alloc (.cells #[.int .u64 xh, .int .u64 xl] 165)).cell? ⟨bg, 1, none⟩ = some (.int .u64 gl) := kc _ _ (two _ _ _) ug1
  have vn0 : ((w2.alloc (.cells #[.int .u64 0, .int .u64 al] 165)).alloc (.cells #[.int .u64 xh, .int .u64 xl] 165)).cell? ⟨w2.heap.size, 0, none⟩ = some (.int .u64 0) := newC3 w2 _ _ _ 0
  have vn1 : ((w2.alloc (.cells #[.int .u64 0, .int .u64 al] 165)).alloc (.cells #[.int .u64 xh, .int .u64 xl] 165)).cell? ⟨w2.heap.size, 1, none⟩ = some (.int .u64 al) := newC3 w2 _ _ _ 1
  have hB3 : Below w.heap.size w ((w2.alloc (.cells #[.int .u64 0, .int .u64 al] 165)).alloc (.cells #[.int .u64 xh, .int .u64 xl] 165)) := beyond hB2 (two _ _ _)
  clear u0 u1 u2 u3 u4 u5 uf0 uf1 ug0 ug1 hB2
  generalize ((w2.alloc (.cells #[.int .u64 0, .int .u64 al] 165)).alloc (.cells #[.int .u64 xh, .int .u64 xl] 165)) = W2 at *
  generalize w2.heap.size = bn at *
  go_wp2_with fail
  refine (HD2.out _).mono ?_
  rintro e w3 ⟨rfl, hb⟩
  have u4 := kc _ _ hb v4
  have u5 := kc _ _ hb v5
  have uf0 := kf _ _ hb v4 vf0
  have uf1 := kf _ _ hb v5 vf1
  have un0 := kc _ _ hb vn0
  have un1 := kc _ _ hb vn1
  have hB4 : Below w.heap.size w w3 := beyond hB3 hb
  clear hb v0 v1 v2 v3 v4 v5 vf0 vf1 vg0 vg1 vn0 vn1 hB3 HD2 hq
  go_upto_region 6 with (fail)
  have x4 : ((w3.alloc (.cells #[.int .u64 0, .int .u64 bl] 165)).alloc (.cells #[.int .u64 yh, .int .u64 yl] 165)).cell? ⟨w.heap.size + 1 + 1, 0, none⟩ = some (.int .i64 0) := kc _ _ (two _ _ _) u4
  have x5 : ((w3.alloc (.cells #[.int .u64 0, .int .u64 bl] 165)).alloc (.cells #[.int .u64 yh, .int .u64 yl] 165)).cell? ⟨w.heap.size + 1 + 1, 1, none⟩ = some (.int .i64 0) := kc _ _ (two _ _ _) u5
  have xf0 : ((w3.alloc (.cells #[.int .u64 0, .int .u64 bl] 165)).alloc (.cells #[.int .u64 yh, .int .u64 yl] 165)).frozen? ⟨w.heap.size + 1 + 1, 0, none⟩ = false := kf _ _ (two _ _ _) u4 uf0
  have xf1 : ((w3.alloc (.cells #[.int .u64 0, .int .u64 bl] 165)).alloc (.cells #[.int .u64 yh, .int .u64 yl] 165)).frozen? ⟨w.heap.size + 1 + 1, 1, none⟩ = false := kf _ _ (two _ _ _) u5 uf1
  have xn0 : ((w3.alloc (.cells #[.int .u64 0, .int .u64 bl] 165)).alloc (.cells #[.int .u64 yh, .int .u64 yl] 165)).cell? ⟨bn, 0, none⟩ = some (.int .u64 0) := kc _ _ (two _ _ _) un0
  have xn1 : ((w3.alloc (.cells #[.int .u64 0, .int .u64 bl] 165)).alloc (.cells #[.int .u64 yh, .int .u64 yl] 165)).cell? ⟨bn, 1, none⟩ = some (.int .u64 al) := kc _ _ (two _ _ _) un1
  have xd0 : ((w3.alloc (.cells #[.int .u64 0, .int .u64 bl] 165)).alloc (.cells #[.int .u64 yh, .int .u64 yl] 165)).cell? ⟨w3.heap.size, 0, none⟩ = some (.int .u64 0) := newC3 w3 _ _ _ 0
  have xd1 : ((w3.alloc (.cells #[.int .u64 0, .int .u64 bl] 165)).alloc (.cells #[.int .u64 yh, .int .u64 yl] 165)).cell? ⟨w3.heap.size, 1, none⟩ = some (.int .u64 bl) := newC3 w3 _ _ _ 1
  have hB5 : Below w.heap.size w ((w3.alloc (.cells #[.int .u64 0, .int .u64 bl] 165)).alloc (.cells #[.int .u64 yh, .int .u64 yl] 165)) := beyond hB4 (two _ _ _)
  clear u4 u5 uf0 uf1 un0 un1 hB4
  generalize ((w3.alloc (.cells #[.int .u64 0, .int .u64 bl] 165)).alloc (.cells #[.int .u64 yh, .int .u64 yl] 165)) = W3 at *
  generalize w3.heap.size = bd at *
  have y4 : ∀ O, (W3.alloc O).cell? ⟨w.heap.size + 1 + 1, 0, none⟩ = some (.int .i64 0) := fun O => kc _ _ (single _ _) x4
  have y5 : ∀ O, (W3.alloc O).cell? ⟨w.heap.size + 1 + 1, 1, none⟩ = some (.int .i64 0) := fun O => kc _ _ (single _ _) x5
  have yn0 : ∀ O, (W3.alloc O).cell? ⟨bn, 0, none⟩ = some (.int .u64 0) := fun O => kc _ _ (single _ _) xn0
  have yn1 : ∀ O, (W3.alloc O).cell? ⟨bn, 1, none⟩ = some (.int .u64 al) := fun O => kc _ _ (single _ _) xn1
  have yf0 : ∀ O, (W3.alloc O).frozen? ⟨w.heap.size + 1 + 1, 0, none⟩ = false := fun O => kf _ _ (single _ _) x4 xf0
  have yf1 : ∀ O, (W3.alloc O).frozen? ⟨w.heap.size + 1 + 1, 1, none⟩ = false := fun O => kf _ _ (single _ _) x5 xf1
  have l3 : w.heap.size + 1 + 1 < W3.heap.size := World.block_lt_of_cell? _ _ x4
  have l4 : bn < W3.heap.size := World.block_lt_of_cell? _ _ xn0
  have m1 : ¬ W3.heap.size = w.heap.size + 1 + 1 := by omega
  have m2 : ¬ w.heap.size + 1 + 1 = W3.heap.size := by omega
  have m3 : ¬ W3.heap.size = bn := by omega
  have m4 : ¬ bn = W3.heap.size := by omega
  have HB6 := hideR (show ∀ O, Below w.heap.size w (W3.alloc O) from fun O => beyond hB5 (single _ _))
  have HB5 := hideR hB5
  clear l1 l3 l4 hB5
  go_wp2_with fail
  refine bodyPost_ret (v := trip (nn, bl, 0)) (by simp [results, Tryz.results133, go_sem, *]) rfl ⟨rfl, ?_⟩
  first | exact set2 HB5.out (by omega) _ _ | exact set2 (HB6.out _) (by omega) _ _ | exact HB5.out | (refine set2 (Below.setCell (HB6.out _) ?_ _) (by omega) _ _; have := (HB6.out default).size; simp at this; omega) | trace_state
set_option maxRecDepth 100000 in
set_option maxHeartbeats 8000000 in
theorem xheld_l_false_f1 (ph pl qh ql gh gl ah al bh bl xh xl yh yl : Int) (w : World) (hq : ¬ ql = 0) (hc : ¬ ah = 0)
    (HC : Hid (∀ w, Calls Tryz.prog 110 #[.agg #[.int .u64 ph, .int .u64 pl], .agg #[.int .u64 qh, .int .u64 ql]] w fun e w' => e = .returned (.agg #[.int .u64 gh, .int .u64 gl]) ∧ Below w.heap.size w w'))
    (HD1 : Hid (∀ w, Calls Tryz.prog 149 #[.agg #[.int .u64 ph, .int .u64 pl], .agg #[.int .u64 gh, .int .u64 gl]] w fun e w' => e = .returned (.tuple #[.agg #[.int .u64 ah, .int .u64 al], .agg #[.int .u64 xh, .int .u64 xl]]) ∧ Below w.heap.size w w'))
    (HD2 : Hid (∀ w, Calls Tryz.prog 149 #[.agg #[.int .u64 qh, .int .u64 ql], .agg #[.int .u64 gh, .int .u64 gl]] w fun e w' => e = .returned (.tuple #[.agg #[.int .u64 bh, .int .u64 bl], .agg #[.int .u64 yh, .int .u64 yl]]) ∧ Below w.heap.size w w')) :
    Calls Tryz.prog 133 #[.bool false, .agg #[.int .u64 ph, .int .u64 pl], .agg #[.int .u64 qh, .int .u64 ql]] w fun e w' => e = .returned (trip (0, 0, 20)) ∧ Below w.heap.size w w' := by
  have n1 : ¬ w.heap.size = w.heap.size + 1 + 1 := by omega
  have n2 : ¬ w.heap.size + 1 + 1 = w.heap.size := by omega
  go_enter Tryz.func133, Tryz.ntmps133
  go_wp2_with fail
  refine (HC.out _).mono ?_
  rintro e w1 ⟨rfl, hb⟩
  have s0 := kc ⟨w.heap.size, 0, none⟩ (.int .u64 ph) hb (by first | assumption | simp [go_sem, *])
  have s1 := kc ⟨w.heap.size, 1, none⟩ (.int .u64 pl) hb (by first | assumption | simp [go_sem, *])
  have s2 := kc ⟨w.heap.size + 1, 0, none⟩ (.int .u64 qh) hb (by first | assumption | simp [go_sem, *])
  have s3 := kc ⟨w.heap.size + 1, 1, none⟩ (.int .u64 ql) hb (by first | assumption | simp [go_sem, *])
  have s4 := kc ⟨w.heap.size + 1 + 1, 0, none⟩ (.int .i64 0) hb (by first | assumption | simp [go_sem, *])
  have s5 := kc ⟨w.heap.size + 1 + 1, 1, none⟩ (.int .i64 0) hb (by first | assumption | simp [go_sem, *])
  have sf0 := kf ⟨w.heap.size + 1 + 1, 0, none⟩ (.int .i64 0) hb (by first | assumption | simp [go_sem, *]) (by first | assumption | simp [go_sem, *])
  have sf1 := kf ⟨w.heap.size + 1 + 1, 1, none⟩ (.int .i64 0) hb (by first | assumption | simp [go_sem, *]) (by first | assumption | simp [go_sem, *])
  have hB1 : Below w.heap.size w w1 := beyond (three w _ _ _) hb
  clear hb
  have l1 : w.heap.size + 1 + 1 < w1.heap.size := World.block_lt_of_cell? _ _ s4
  go_upto_region 4 with (fail)
  have t0 : (w1.alloc (.cells #[.int .u64 gh, .int .u64 gl] 165)).cell? ⟨w.heap.size, 0, none⟩ = some (.int .u64 ph) := kc _ _ (single _ _) s0
  have t1 : (w1.alloc (.cells #[.int .u64 gh, .int .u64 gl] 165)).cell? ⟨w.heap.size, 1, none⟩ = some (.int .u64 pl) := kc _ _ (single _ _) s1
  have t2 : (w1.alloc (.cells #[.int .u64 gh, .int .u64 gl] 165)).cell? ⟨w.heap.size + 1, 0, none⟩ = some (.int .u64 qh) := kc _ _ (single _ _) s2
  have t3 : (w1.alloc (.cells #[.int .u64 gh, .int .u64 gl] 165)).cell? ⟨w.heap.size + 1, 1, none⟩ = some (.int .u64 ql) := kc _ _ (single _ _) s3
  have t4 : (w1.alloc (.cells #[.int .u64 gh, .int .u64 gl] 165)).cell? ⟨w.heap.size + 1 + 1, 0, none⟩ = some (.int .i64 0) := kc _ _ (single _ _) s4
  have t5 : (w1.alloc (.cells #[.int .u64 gh, .int .u64 gl] 165)).cell? ⟨w.heap.size + 1 + 1, 1, none⟩ = some (.int .i64 0) := kc _ _ (single _ _) s5
  have tf0 : (w1.alloc (.cells #[.int .u64 gh, .int .u64 gl] 165)).frozen? ⟨w.heap.size + 1 + 1, 0, none⟩ = false := kf _ _ (single _ _) s4 sf0
  have tf1 : (w1.alloc (.cells #[.int .u64 gh, .int .u64 gl] 165)).frozen? ⟨w.heap.size + 1 + 1, 1, none⟩ = false := kf _ _ (single _ _) s5 sf1
  have tg0 : (w1.alloc (.cells #[.int .u64 gh, .int .u64 gl] 165)).cell? ⟨w1.heap.size, 0, none⟩ = some (.int .u64 gh) := new_cell w1 _ _ 0
  have tg1 : (w1.alloc (.cells #[.int .u64 gh, .int .u64 gl] 165)).cell? ⟨w1.heap.size, 1, none⟩ = some (.int .u64 gl) := new_cell w1 _ _ 1
  have hBG : Below w.heap.size w (w1.alloc (.cells #[.int .u64 gh, .int .u64 gl] 165)) := beyond hB1 (single _ _)
  clear s0 s1 s2 s3 s4 s5 sf0 sf1 hB1 HC
  generalize (w1.alloc (.cells #[.int .u64 gh, .int .u64 gl] 165)) = W1 at *
  generalize w1.heap.size = bg at *
  go_wp2_with fail
  refine (HD1.out _).mono ?_
  rintro e w2 ⟨rfl, hb⟩
  have u0 := kc _ _ hb t0
  have u1 := kc _ _ hb t1
  have u2 := kc _ _ hb t2
  have u3 := kc _ _ hb t3
  have u4 := kc _ _ hb t4
  have u5 := kc _ _ hb t5
  have uf0 := kf _ _ hb t4 tf0
  have uf1 := kf _ _ hb t5 tf1
  have ug0 := kc _ _ hb tg0
  have ug1 := kc _ _ hb tg1
  have hB2 : Below w.heap.size w w2 := beyond hBG hb
  clear hb t0 t1 t2 t3 t4 t5 tf0 tf1 tg0 tg1 hBG HD1
  go_upto_region 5 with (fail)
  have v0 : ((w2.alloc (.cells #[.int .u64 ah, .int .u64 al] 165)).alloc (.cells #[.int .u64 xh, .int .u64 xl] 165)).cell? ⟨w.heap.size, 0, none⟩ = some (.int .u64 ph) := kc _ _ (two _ _ _) u0
  have v1 : ((w2.alloc (.cells #[.int .u64 ah, .int .u64 al] 165)).alloc (.cells #[.int .u64 xh, .int .u64 xl] 165)).cell? ⟨w.heap.size, 1, none⟩ = some (.int .u64 pl) := kc _ _ (two _ _ _) u1
  have v2 : ((w2.alloc (.cells #[.int .u64 ah, .int .u64 al] 165)).alloc (.cells #[.int .u64 xh, .int .u64 xl] 165)).cell? ⟨w.heap.size + 1, 0, none⟩ = some (.int .u64 qh) := kc _ _ (two _ _ _) u2
  have v3 : ((w2.alloc (.cells #[.int .u64 ah, .int .u64 al] 165)).alloc (.cells #[.int .u64 xh, .int .u64 xl] 165)).cell? ⟨w.heap.size + 1, 1, none⟩ = some (.int .u64 ql) := kc _ _ (two _ _ _) u3
  have v4 : ((w2.alloc (.cells #[.int .u64 ah, .int .u64 al] 165)).alloc (.cells #[.int .u64 xh, .int .u64 xl] 165)).cell? ⟨w.heap.size + 1 + 1, 0, none⟩ = some (.int .i64 0) := kc _ _ (two _ _ _) u4
  have v5 : ((w2.alloc (.cells #[.int .u64 ah, .int .u64 al] 165)).alloc (.cells #[.int .u64 xh, .int .u64 xl] 165)).cell? ⟨w.heap.size + 1 + 1, 1, none⟩ = some (.int .i64 0) := kc _ _ (two _ _ _) u5
  have vf0 : ((w2.alloc (.cells #[.int .u64 ah, .int .u64 al] 165)).alloc (.cells #[.int .u64 xh, .int .u64 xl] 165)).frozen? ⟨w.heap.size + 1 + 1, 0, none⟩ = false := kf _ _ (two _ _ _) u4 uf0
  have vf1 : ((w2.alloc (.cells #[.int .u64 ah, .int .u64 al] 165)).alloc (.cells #[.int .u64 xh, .int .u64 xl] 165)).frozen? ⟨w.heap.size + 1 + 1, 1, none⟩ = false := kf _ _ (two _ _ _) u5 uf1
  have vg0 : ((w2.alloc (.cells #[.int .u64 ah, .int .u64 al] 165)).alloc (.cells #[.int .u64 xh, .int .u64 xl] 165)).cell? ⟨bg, 0, none⟩ = some (.int .u64 gh) := kc _ _ (two _ _ _) ug0
  have vg1 : ((w2.alloc (.cells #[.int .u64 ah, .int .u64 al] 165)).alloc (.cells #[.int .u64 xh, .int .u64 xl] 165)).cell? ⟨bg, 1, none⟩ = some (.int .u64 gl) := kc _ _ (two _ _ _) ug1
  have vn0 : ((w2.alloc (.cells #[.int .u64 ah, .int .u64 al] 165)).alloc (.cells #[.int .u64 xh, .int .u64 xl] 165)).cell? ⟨w2.heap.size, 0, none⟩ = some (.int .u64 ah) := newC3 w2 _ _ _ 0
  have vn1 : ((w2.alloc (.cells #[.int .u64 ah, .int .u64 al] 165)).alloc (.cells #[.int .u64 xh, .int .u64 xl] 165)).cell? ⟨w2.heap.size, 1, none⟩ = some (.int .u64 al) := newC3 w2 _ _ _ 1
  have hB3 : Below w.heap.size w ((w2.alloc (.cells #[.int .u64 ah, .int .u64 al] 165)).alloc (.cells #[.int .u64 xh, .int .u64 xl] 165)) := beyond hB2 (two _ _ _)
  clear u0 u1 u2 u3 u4 u5 uf0 uf1 ug0 ug1 hB2
  generalize ((w2.alloc (.cells #[.int .u64 ah, .int .u64 al] 165)).alloc (.cells #[.int .u64 xh, .int .u64 xl] 165)) = W2 at *
  generalize w2.heap.size = bn at *
  go_wp2_with fail
  refine (HD2.out _).mono ?_
  rintro e w3 ⟨rfl, hb⟩
  have u4 := kc _ _ hb v4
  have u5 := kc _ _ hb v5
  have uf0 := kf _ _ hb v4 vf0
  have uf1 := kf _ _ hb v5 vf1
  have un0 := kc _ _ hb vn0
  have un1 := kc _ _ hb vn1
  have hB4 : Below w.heap.size w w3 := beyond hB3 hb
  clear hb v0 v1 v2 v3 v4 v5 vf0 vf1 vg0 vg1 vn0 vn1 hB3 HD2 hq
  go_upto_region 6 with (fail)
  have x4 : ((w3.alloc (.cells #[.int .u64 bh, .int .u64 bl] 165)).alloc (.cells #[.int .u64 yh, .int .u64 yl] 165)).cell? ⟨w.heap.size + 1 + 1, 0, none⟩ = some (.int .i64 0) := kc _ _ (two _ _ _) u4
  have x5 : ((w3.alloc (.cells #[.int .u64 bh, .int .u64 bl] 165)).alloc (.cells #[.int .u64 yh, .int .u64 yl] 165)).cell? ⟨w.heap.size + 1 + 1, 1, none⟩ = some (.int .i64 0) := kc _ _ (two _ _ _) u5
  have xf0 : ((w3.alloc (.cells #[.int .u64 bh, .int .u64 bl] 165)).alloc (.cells #[.int .u64 yh, .int .u64 yl] 165)).frozen? ⟨w.heap.size + 1 + 1, 0, none⟩ = false := kf _ _ (two _ _ _) u4 uf0
  have xf1 : ((w3.alloc (.cells #[.int .u64 bh, .int .u64 bl] 165)).alloc (.cells #[.int .u64 yh, .int .u64 yl] 165)).frozen? ⟨w.heap.size + 1 + 1, 1, none⟩ = false := kf _ _ (two _ _ _) u5 uf1
  have xn0 : ((w3.alloc (.cells #[.int .u64 bh, .int .u64 bl] 165)).alloc (.cells #[.int .u64 yh, .int .u64 yl] 165)).cell? ⟨bn, 0, none⟩ = some (.int .u64 ah) := kc _ _ (two _ _ _) un0
  have xn1 : ((w3.alloc (.cells #[.int .u64 bh, .int .u64 bl] 165)).alloc (.cells #[.int .u64 yh, .int .u64 yl] 165)).cell? ⟨bn, 1, none⟩ = some (.int .u64 al) := kc _ _ (two _ _ _) un1
  have xd0 : ((w3.alloc (.cells #[.int .u64 bh, .int .u64 bl] 165)).alloc (.cells #[.int .u64 yh, .int .u64 yl] 165)).cell? ⟨w3.heap.size, 0, none⟩ = some (.int .u64 bh) := newC3 w3 _ _ _ 0
  have xd1 : ((w3.alloc (.cells #[.int .u64 bh, .int .u64 bl] 165)).alloc (.cells #[.int .u64 yh, .int .u64 yl] 165)).cell? ⟨w3.heap.size, 1, none⟩ = some (.int .u64 bl) := newC3 w3 _ _ _ 1
  have hB5 : Below w.heap.size w ((w3.alloc (.cells #[.int .u64 bh, .int .u64 bl] 165)).alloc (.cells #[.int .u64 yh, .int .u64 yl] 165)) := beyond hB4 (two _ _ _)
  clear u4 u5 uf0 uf1 un0 un1 hB4
  generalize ((w3.alloc (.cells #[.int .u64 bh, .int .u64 bl] 165)).alloc (.cells #[.int .u64 yh, .int .u64 yl] 165)) = W3 at *
  generalize w3.heap.size = bd at *
  have y4 : ∀ O, (W3.alloc O).cell? ⟨w.heap.size + 1 + 1, 0, none⟩ = some (.int .i64 0) := fun O => kc _ _ (single _ _) x4
  have y5 : ∀ O, (W3.alloc O).cell? ⟨w.heap.size + 1 + 1, 1, none⟩ = some (.int .i64 0) := fun O => kc _ _ (single _ _) x5
  have yn0 : ∀ O, (W3.alloc O).cell? ⟨bn, 0, none⟩ = some (.int .u64 ah) := fun O => kc _ _ (single _ _) xn0
  have yn1 : ∀ O, (W3.alloc O).cell? ⟨bn, 1, none⟩ = some (.int .u64 al) := fun O => kc _ _ (single _ _) xn1
  have yf0 : ∀ O, (W3.alloc O).frozen? ⟨w.heap.size + 1 + 1, 0, none⟩ = false := fun O => kf _ _ (single _ _) x4 xf0
  have yf1 : ∀ O, (W3.alloc O).frozen? ⟨w.heap.size + 1 + 1, 1, none⟩ = false := fun O => kf _ _ (single _ _) x5 xf1
  have l3 : w.heap.size + 1 + 1 < W3.heap.size := World.block_lt_of_cell? _ _ x4
  have l4 : bn < W3.heap.size := World.block_lt_of_cell? _ _ xn0
  have m1 : ¬ W3.heap.size = w.heap.size + 1 + 1 := by omega
  have m2 : ¬ w.heap.size + 1 + 1 = W3.heap.size := by omega
  have m3 : ¬ W3.heap.size = bn := by omega
  have m4 : ¬ bn = W3.heap.size := by omega
  have HB6 := hideR (show ∀ O, Below w.heap.size w (W3.alloc O) from fun O => beyond hB5 (single _ _))
  have HB5 := hideR hB5
  clear l1 l3 l4 hB5
  go_wp2_with fail
  refine bodyPost_ret (v := trip (0, 0, 20)) (by simp [results, Tryz.results133, go_sem, *]) rfl ⟨rfl, ?_⟩
  first | exact set2 HB5.out (by omega) _ _ | exact set2 (HB6.out _) (by omega) _ _ | exact HB5.out | (refine set2 (Below.setCell (HB6.out _) ?_ _) (by omega) _ _; have := (HB6.out default).size; simp at this; omega) | trace_state
set_option maxRecDepth 100000 in
set_option maxHeartbeats 8000000 in
theorem xheld_l_false_f2 (ph pl qh ql gh gl al bh bl xh xl yh yl : Int) (w : World) (hq : ¬ ql = 0) (hc : 9223372036854775807 < al)
    (HC : Hid (∀ w, Calls Tryz.prog 110 #[.agg #[.int .u64 ph, .int .u64 pl], .agg #[.int .u64 qh, .int .u64 ql]] w fun e w' => e = .returned (.agg #[.int .u64 gh, .int .u64 gl]) ∧ Below w.heap.size w w'))
    (HD1 : Hid (∀ w, Calls Tryz.prog 149 #[.agg #[.int .u64 ph, .int .u64 pl], .agg #[.int .u64 gh, .int .u64 gl]] w fun e w' => e = .returned (.tuple #[.agg #[.int .u64 0, .int .u64 al], .agg #[.int .u64 xh, .int .u64 xl]]) ∧ Below w.heap.size w w'))
    (HD2 : Hid (∀ w, Calls Tryz.prog 149 #[.agg #[.int .u64 qh, .int .u64 ql], .agg #[.int .u64 gh, .int .u64 gl]] w fun e w' => e = .returned (.tuple #[.agg #[.int .u64 bh, .int .u64 bl], .agg #[.int .u64 yh, .int .u64 yl]]) ∧ Below w.heap.size w w')) :
    Calls Tryz.prog 133 #[.bool false, .agg #[.int .u64 ph, .int .u64 pl], .agg #[.int .u64 qh, .int .u64 ql]] w fun e w' => e = .returned (trip (0, 0, 20)) ∧ Below w.heap.size w w' := by
  have n1 : ¬ w.heap.size = w.heap.size + 1 + 1 := by omega
  have n2 : ¬ w.heap.size + 1 + 1 = w.heap.size := by omega
  go_enter Tryz.func133, Tryz.ntmps133
  go_wp2_with fail
  refine (HC.out _).mono ?_
  rintro e w1 ⟨rfl, hb⟩
  have s0 := kc ⟨w.heap.size, 0, none⟩ (.int .u64 ph) hb (by first | assumption | simp [go_sem, *])
  have s1 := kc ⟨w.heap.size, 1, none⟩ (.int .u64 pl) hb (by first | assumption | simp [go_sem, *])
  have s2 := kc ⟨w.heap.size + 1, 0, none⟩ (.int .u64 qh) hb (by first | assumption | simp [go_sem, *])
  have s3 := kc ⟨w.heap.size + 1, 1, none⟩ (.int .u64 ql) hb (by first | assumption | simp [go_sem, *])
  have s4 := kc ⟨w.heap.size + 1 + 1, 0, none⟩ (.int .i64 0) hb (by first | assumption | simp [go_sem, *])
  have s5 := kc ⟨w.heap.size + 1 + 1, 1, none⟩ (.int .i64 0) hb (by first | assumption | simp [go_sem, *])
  have sf0 := kf ⟨w.heap.size + 1 + 1, 0, none⟩ (.int .i64 0) hb (by first | assumption | simp [go_sem, *]) (by first | assumption | simp [go_sem, *])
  have sf1 := kf ⟨w.heap.size + 1 + 1, 1, none⟩ (.int .i64 0) hb (by first | assumption | simp [go_sem, *]) (by first | assumption | simp [go_sem, *])
  have hB1 : Below w.heap.size w w1 := beyond (three w _ _ _) hb
  clear hb
  have l1 : w.heap.size + 1 + 1 < w1.heap.size := World.block_lt_of_cell? _ _ s4
  go_upto_region 4 with (fail)
  have t0 : (w1.alloc (.cells #[.int .u64 gh, .int .u64 gl] 165)).cell? ⟨w.heap.size, 0, none⟩ = some (.int .u64 ph) := kc _ _ (single _ _) s0
  have t1 : (w1.alloc (.cells #[.int .u64 gh, .int .u64 gl] 165)).cell? ⟨w.heap.size, 1, none⟩ = some (.int .u64 pl) := kc _ _ (single _ _) s1
  have t2 : (w1.alloc (.cells #[.int .u64 gh, .int .u64 gl] 165)).cell? ⟨w.heap.size + 1, 0, none⟩ = some (.int .u64 qh) := kc _ _ (single _ _) s2
  have t3 : (w1.alloc (.cells #[.int .u64 gh, .int .u64 gl] 165)).cell? ⟨w.heap.size + 1, 1, none⟩ = some (.int .u64 ql) := kc _ _ (single _ _) s3
  have t4 : (w1.alloc (.cells #[.int .u64 gh, .int .u64 gl] 165)).cell? ⟨w.heap.size + 1 + 1, 0, none⟩ = some (.int .i64 0) := kc _ _ (single _ _) s4
  have t5 : (w1.alloc (.cells #[.int .u64 gh, .int .u64 gl] 165)).cell? ⟨w.heap.size + 1 + 1, 1, none⟩ = some (.int .i64 0) := kc _ _ (single _ _) s5
  have tf0 : (w1.alloc (.cells #[.int .u64 gh, .int .u64 gl] 165)).frozen? ⟨w.heap.size + 1 + 1, 0, none⟩ = false := kf _ _ (single _ _) s4 sf0
  have tf1 : (w1.alloc (.cells #[.int .u64 gh, .int .u64 gl] 165)).frozen? ⟨w.heap.size + 1 + 1, 1, none⟩ = false := kf _ _ (single _ _) s5 sf1
  have tg0 : (w1.alloc (.cells #[.int .u64 gh, .int .u64 gl] 165)).cell? ⟨w1.heap.size, 0, none⟩ = some (.int .u64 gh) := new_cell w1 _ _ 0
  have tg1 : (w1.alloc (.cells #[.int .u64 gh, .int .u64 gl] 165)).cell? ⟨w1.heap.size, 1, none⟩ = some (.int .u64 gl) := new_cell w1 _ _ 1
  have hBG : Below w.heap.size w (w1.alloc (.cells #[.int .u64 gh, .int .u64 gl] 165)) := beyond hB1 (single _ _)
  clear s0 s1 s2 s3 s4 s5 sf0 sf1 hB1 HC
  generalize (w1.alloc (.cells #[.int .u64 gh, .int .u64 gl] 165)) = W1 at *
  generalize w1.heap.size = bg at *
  go_wp2_with fail
  refine (HD1.out _).mono ?_
  rintro e w2 ⟨rfl, hb⟩
  have u0 := kc _ _ hb t0
  have u1 := kc _ _ hb t1
  have u2 := kc _ _ hb t2
  have u3 := kc _ _ hb t3
  have u4 := kc _ _ hb t4
  have u5 := kc _ _ hb t5
  have uf0 := kf _ _ hb t4 tf0
  have uf1 := kf _ _ hb t5 tf1
  have ug0 := kc _ _ hb tg0
  have ug1 := kc _ _ hb tg1
  have hB2 : Below w.heap.size w w2 := beyond hBG hb
  clear hb t0 t1 t2 t3 t4 t5 tf0 tf1 tg0 tg1 hBG HD1
  go_upto_region 5 with (fail)
  have v0 : ((w2.alloc (.cells #[.int .u64 0, .int .u64 al] 165)).alloc (.cells #[.int .u64 xh, .int .u64 xl] 165)).cell? ⟨w.heap.size, 0, none⟩ = some (.int .u64 ph) := kc _ _ (two _ _ _) u0
  have v1 : ((w2.alloc (.cells #[.int .u64 0, .int .u64 al] 165)).alloc (.cells #[.int .u64 xh, .int .u64 xl] 165)).cell? ⟨w.heap.size, 1, none⟩ = some (.int .u64 pl) := kc _ _ (two _ _ _) u1
  have v2 : ((w2.alloc (.cells #[.int .u64 0, .int .u64 al] 165)).alloc (.cells #[.int .u64 xh, .int .u64 xl] 165)).cell? ⟨w.heap.size + 1, 0, none⟩ = some (.int .u64 qh) := kc _ _ (two _ _ _) u2
  have v3 : ((w2.alloc (.cells #[.int .u64 0, .int .u64 al] 165)).alloc (.cells #[.int .u64 xh, .int .u64 xl] 165)).cell? ⟨w.heap.size + 1, 1, none⟩ = some (.int .u64 ql) := kc _ _ (two _ _ _) u3
  have v4 : ((w2.alloc (.cells #[.int .u64 0, .int .u64 al] 165)).alloc (.cells #[.int .u64 xh, .int .u64 xl] 165)).cell? ⟨w.heap.size + 1 + 1, 0, none⟩ = some (.int .i64 0) := kc _ _ (two _ _ _) u4
  have v5 : ((w2.alloc (.cells #[.int .u64 0, .int .u64 al] 165)).alloc (.cells #[.int .u64 xh, .int .u64 xl] 165)).cell? ⟨w.heap.size + 1 + 1, 1, none⟩ = some (.int .i64 0) := kc _ _ (two _ _ _) u5
  have vf0 : ((w2.alloc (.cells #[.int .u64 0, .int .u64 al] 165)).alloc (.cells #[.int .u64 xh, .int .u64 xl] 165)).frozen? ⟨w.heap.size + 1 + 1, 0, none⟩ = false := kf _ _ (two _ _ _) u4 uf0
  have vf1 : ((w2.alloc (.cells #[.int .u64 0, .int .u64 al] 165)).alloc (.cells #[.int .u64 xh, .int .u64 xl] 165)).frozen? ⟨w.heap.size + 1 + 1, 1, none⟩ = false := kf _ _ (two _ _ _) u5 uf1
  have vg0 : ((w2.alloc (.cells #[.int .u64 0, .int .u64 al] 165)).alloc (.cells #[.int .u64 xh, .int .u64 xl] 165)).cell? ⟨bg, 0, none⟩ = some (.int .u64 gh) := kc _ _ (two _ _ _) ug0
  have vg1 : ((w2.alloc (.cells #[.int .u64 0, .int .u64 al] 165)).alloc (.cells #[.int .u64 xh, .int .u64 xl] 165)).cell? ⟨bg, 1, none⟩ = some (.int .u64 gl) := kc _ _ (two _ _ _) ug1
  have vn0 : ((w2.alloc (.cells #[.int .u64 0, .int .u64 al] 165)).alloc (.cells #[.int .u64 xh, .int .u64 xl] 165)).cell? ⟨w2.heap.size, 0, none⟩ = some (.int .u64 0) := newC3 w2 _ _ _ 0
  have vn1 : ((w2.alloc (.cells #[.int .u64 0, .int .u64 al] 165)).alloc (.cells #[.int .u64 xh, .int .u64 xl] 165)).cell? ⟨w2.heap.size, 1, none⟩ = some (.int .u64 al) := newC3 w2 _ _ _ 1
  have hB3 : Below w.heap.size w ((w2.alloc (.cells #[.int .u64 0, .int .u64 al] 165)).alloc (.cells #[.int .u64 xh, .int .u64 xl] 165)) := beyond hB2 (two _ _ _)
  clear u0 u1 u2 u3 u4 u5 uf0 uf1 ug0 ug1 hB2
  generalize ((w2.alloc (.cells #[.int .u64 0, .int .u64 al] 165)).alloc (.cells #[.int .u64 xh, .int .u64 xl] 165)) = W2 at *
  generalize w2.heap.size = bn at *
  go_wp2_with fail
  refine (HD2.out _).mono ?_
  rintro e w3 ⟨rfl, hb⟩
  have u4 := kc _ _ hb v4
  have u5 := kc _ _ hb v5
  have uf0 := kf _ _ hb v4 vf0
  have uf1 := kf _ _ hb v5 vf1
  have un0 := kc _ _ hb vn0
  have un1 := kc _ _ hb vn1
  have hB4 : Below w.heap.size w w3 := beyond hB3 hb
  clear hb v0 v1 v2 v3 v4 v5 vf0 vf1 vg0 vg1 vn0 vn1 hB3 HD2 hq
  go_upto_region 6 with (fail)
  have x4 : ((w3.alloc (.cells #[.int .u64 bh, .int .u64 bl] 165)).alloc (.cells #[.int .u64 yh, .int .u64 yl] 165)).cell? ⟨w.heap.size + 1 + 1, 0, none⟩ = some (.int .i64 0) := kc _ _ (two _ _ _) u4
  have x5 : ((w3.alloc (.cells #[.int .u64 bh, .int .u64 bl] 165)).alloc (.cells #[.int .u64 yh, .int .u64 yl] 165)).cell? ⟨w.heap.size + 1 + 1, 1, none⟩ = some (.int .i64 0) := kc _ _ (two _ _ _) u5
  have xf0 : ((w3.alloc (.cells #[.int .u64 bh, .int .u64 bl] 165)).alloc (.cells #[.int .u64 yh, .int .u64 yl] 165)).frozen? ⟨w.heap.size + 1 + 1, 0, none⟩ = false := kf _ _ (two _ _ _) u4 uf0
  have xf1 : ((w3.alloc (.cells #[.int .u64 bh, .int .u64 bl] 165)).alloc (.cells #[.int .u64 yh, .int .u64 yl] 165)).frozen? ⟨w.heap.size + 1 + 1, 1, none⟩ = false := kf _ _ (two _ _ _) u5 uf1
  have xn0 : ((w3.alloc (.cells #[.int .u64 bh, .int .u64 bl] 165)).alloc (.cells #[.int .u64 yh, .int .u64 yl] 165)).cell? ⟨bn, 0, none⟩ = some (.int .u64 0) := kc _ _ (two _ _ _) un0
  have xn1 : ((w3.alloc (.cells #[.int .u64 bh, .int .u64 bl] 165)).alloc (.cells #[.int .u64 yh, .int .u64 yl] 165)).cell? ⟨bn, 1, none⟩ = some (.int .u64 al) := kc _ _ (two _ _ _) un1
  have xd0 : ((w3.alloc (.cells #[.int .u64 bh, .int .u64 bl] 165)).alloc (.cells #[.int .u64 yh, .int .u64 yl] 165)).cell? ⟨w3.heap.size, 0, none⟩ = some (.int .u64 bh) := newC3 w3 _ _ _ 0
  have xd1 : ((w3.alloc (.cells #[.int .u64 bh, .int .u64 bl] 165)).alloc (.cells #[.int .u64 yh, .int .u64 yl] 165)).cell? ⟨w3.heap.size, 1, none⟩ = some (.int .u64 bl) := newC3 w3 _ _ _ 1
  have hB5 : Below w.heap.size w ((w3.alloc (.cells #[.int .u64 bh, .int .u64 bl] 165)).alloc (.cells #[.int .u64 yh, .int .u64 yl] 165)) := beyond hB4 (two _ _ _)
  clear u4 u5 uf0 uf1 un0 un1 hB4
  generalize ((w3.alloc (.cells #[.int .u64 bh, .int .u64 bl] 165)).alloc (.cells #[.int .u64 yh, .int .u64 yl] 165)) = W3 at *
  generalize w3.heap.size = bd at *
  have y4 : ∀ O, (W3.alloc O).cell? ⟨w.heap.size + 1 + 1, 0, none⟩ = some (.int .i64 0) := fun O => kc _ _ (single _ _) x4
  have y5 : ∀ O, (W3.alloc O).cell? ⟨w.heap.size + 1 + 1, 1, none⟩ = some (.int .i64 0) := fun O => kc _ _ (single _ _) x5
  have yn0 : ∀ O, (W3.alloc O).cell? ⟨bn, 0, none⟩ = some (.int .u64 0) := fun O => kc _ _ (single _ _) xn0
  have yn1 : ∀ O, (W3.alloc O).cell? ⟨bn, 1, none⟩ = some (.int .u64 al) := fun O => kc _ _ (single _ _) xn1
  have yf0 : ∀ O, (W3.alloc O).frozen? ⟨w.heap.size + 1 + 1, 0, none⟩ = false := fun O => kf _ _ (single _ _) x4 xf0
  have yf1 : ∀ O, (W3.alloc O).frozen? ⟨w.heap.size + 1 + 1, 1, none⟩ = false := fun O => kf _ _ (single _ _) x5 xf1
  have l3 : w.heap.size + 1 + 1 < W3.heap.size := World.block_lt_of_cell? _ _ x4
  have l4 : bn < W3.heap.size := World.block_lt_of_cell? _ _ xn0
  have m1 : ¬ W3.heap.size = w.heap.size + 1 + 1 := by omega
  have m2 : ¬ w.heap.size + 1 + 1 = W3.heap.size := by omega
  have m3 : ¬ W3.heap.size = bn := by omega
  have m4 : ¬ bn = W3.heap.size := by omega
  have HB6 := hideR (show ∀ O, Below w.heap.size w (W3.alloc O) from fun O => beyond hB5 (single _ _))
  have HB5 := hideR hB5
  clear l1 l3 l4 hB5
  go_wp2_with fail
  refine bodyPost_ret (v := trip (0, 0, 20)) (by simp [results, Tryz.results133, go_sem, *]) rfl ⟨rfl, ?_⟩
  first | exact set2 HB5.out (by omega) _ _ | exact set2 (HB6.out _) (by omega) _ _ | exact HB5.out | (refine set2 (Below.setCell (HB6.out _) ?_ _) (by omega) _ _; have := (HB6.out default).size; simp at this; omega) | trace_state
set_option maxRecDepth 100000 in
set_option maxHeartbeats 8000000 in
theorem xheld_l_false_f3 (ph pl qh ql gh gl al bh bl xh xl yh yl : Int) (w : World) (hq : ¬ ql = 0) (e2 : ¬ 9223372036854775807 < al) (hc : ¬ bh = 0)
    (HC : Hid (∀ w, Calls Tryz.prog 110 #[.agg #[.int .u64 ph, .int .u64 pl], .agg #[.int .u64 qh, .int .u64 ql]] w fun e w' => e = .returned (.agg #[.int .u64 gh, .int .u64 gl]) ∧ Below w.heap.size w w'))
    (HD1 : Hid (∀ w, Calls Tryz.prog 149 #[.agg #[.int .u64 ph, .int .u64 pl], .agg #[.int .u64 gh, .int .u64 gl]] w fun e w' => e = .returned (.tuple #[.agg #[.int .u64 0, .int .u64 al], .agg #[.int .u64 xh, .int .u64 xl]]) ∧ Below w.heap.size w w'))
    (HD2 : Hid (∀ w, Calls Tryz.prog 149 #[.agg #[.int .u64 qh, .int .u64 ql], .agg #[.int .u64 gh, .int .u64 gl]] w fun e w' => e = .returned (.tuple #[.agg #[.int .u64 bh, .int .u64 bl], .agg #[.int .u64 yh, .int .u64 yl]]) ∧ Below w.heap.size w w')) :
    Calls Tryz.prog 133 #[.bool false, .agg #[.int .u64 ph, .int .u64 pl], .agg #[.int .u64 qh, .int .u64 ql]] w fun e w' => e = .returned (trip (0, 0, 20)) ∧ Below w.heap.size w w' := by
  have n1 : ¬ w.heap.size = w.heap.size + 1 + 1 := by omega
  have n2 : ¬ w.heap.size + 1 + 1 = w.heap.size := by omega
  go_enter Tryz.func133, Tryz.ntmps133
  go_wp2_with fail
  refine (HC.out _).mono ?_
  rintro e w1 ⟨rfl, hb⟩
  have s0 := kc ⟨w.heap.size, 0, none⟩ (.int .u64 ph) hb (by first | assumption | simp [go_sem, *])
  have s1 := kc ⟨w.heap.size, 1, none⟩ (.int .u64 pl) hb (by first | assumption | simp [go_sem, *])
  have s2 := kc ⟨w.heap.size + 1, 0, none⟩ (.int .u64 qh) hb (by first | assumption | simp [go_sem, *])
  have s3 := kc ⟨w.heap.size + 1, 1, none⟩ (.int .u64 ql) hb (by first | assumption | simp [go_sem, *])
  have s4 := kc ⟨w.heap.size + 1 + 1, 0, none⟩ (.int .i64 0) hb (by first | assumption | simp [go_sem, *])
  have s5 := kc ⟨w.heap.size + 1 + 1, 1, none⟩ (.int .i64 0) hb (by first | assumption | simp [go_sem, *])
  have sf0 := kf ⟨w.heap.size + 1 + 1, 0, none⟩ (.int .i64 0) hb (by first | assumption | simp [go_sem, *]) (by first | assumption | simp [go_sem, *])
  have sf1 := kf ⟨w.heap.size + 1 + 1, 1, none⟩ (.int .i64 0) hb (by first | assumption | simp [go_sem, *]) (by first | assumption | simp [go_sem, *])
  have hB1 : Below w.heap.size w w1 := beyond (three w _ _ _) hb
  clear hb
  have l1 : w.heap.size + 1 + 1 < w1.heap.size := World.block_lt_of_cell? _ _ s4
  go_upto_region 4 with (fail)
  have t0 : (w1.alloc (.cells #[.int .u64 gh, .int .u64 gl] 165)).cell? ⟨w.heap.size, 0, none⟩ = some (.int .u64 ph) := kc _ _ (single _ _) s0
  have t1 : (w1.alloc (.cells #[.int .u64 gh, .int .u64 gl] 165)).cell? ⟨w.heap.size, 1, none⟩ = some (.int .u64 pl) := kc _ _ (single _ _) s1
  have t2 : (w1.alloc (.cells #[.int .u64 gh, .int .u64 gl] 165)).cell? ⟨w.heap.size + 1, 0, none⟩ = some (.int .u64 qh) := kc _ _ (single _ _) s2
  have t3 : (w1.alloc (.cells #[.int .u64 gh, .int .u64 gl] 165)).cell? ⟨w.heap.size + 1, 1, none⟩ = some (.int .u64 ql) := kc _ _ (single _ _) s3
  have t4 : (w1.alloc (.cells #[.int .u64 gh, .int .u64 gl] 165)).cell? ⟨w.heap.size + 1 + 1, 0, none⟩ = some (.int .i64 0) := kc _ _ (single _ _) s4
  have t5 : (w1.alloc (.cells #[.int .u64 gh, .int .u64 gl] 165)).cell? ⟨w.heap.size + 1 + 1, 1, none⟩ = some (.int .i64 0) := kc _ _ (single _ _) s5
  have tf0 : (w1.alloc (.cells #[.int .u64 gh, .int .u64 gl] 165)).frozen? ⟨w.heap.size + 1 + 1, 0, none⟩ = false := kf _ _ (single _ _) s4 sf0
  have tf1 : (w1.alloc (.cells #[.int .u64 gh, .int .u64 gl] 165)).frozen? ⟨w.heap.size + 1 + 1, 1, none⟩ = false := kf _ _ (single _ _) s5 sf1
  have tg0 : (w1.alloc (.cells #[.int .u64 gh, .int .u64 gl] 165)).cell? ⟨w1.heap.size, 0, none⟩ = some (.int .u64 gh) := new_cell w1 _ _ 0
  have tg1 : (w1.alloc (.cells #[.int .u64 gh, .int .u64 gl] 165)).cell? ⟨w1.heap.size, 1, none⟩ = some (.int .u64 gl) := new_cell w1 _ _ 1
  have hBG : Below w.heap.size w (w1.alloc (.cells #[.int .u64 gh, .int .u64 gl] 165)) := beyond hB1 (single _ _)
  clear s0 s1 s2 s3 s4 s5 sf0 sf1 hB1 HC
  generalize (w1.alloc (.cells #[.int .u64 gh, .int .u64 gl] 165)) = W1 at *
  generalize w1.heap.size = bg at *
  go_wp2_with fail
  refine (HD1.out _).mono ?_
  rintro e w2 ⟨rfl, hb⟩
  have u0 := kc _ _ hb t0
  have u1 := kc _ _ hb t1
  have u2 := kc _ _ hb t2
  have u3 := kc _ _ hb t3
  have u4 := kc _ _ hb t4
  have u5 := kc _ _ hb t5
  have uf0 := kf _ _ hb t4 tf0
  have uf1 := kf _ _ hb t5 tf1
  have ug0 := kc _ _ hb tg0
  have ug1 := kc _ _ hb tg1
  have hB2 : Below w.heap.size w w2 := beyond hBG hb
  clear hb t0 t1 t2 t3 t4 t5 tf0 tf1 tg0 tg1 hBG HD1
  go_upto_region 5 with (fail)
  have v0 : ((w2.alloc (.cells #[.int .u64 0, .int .u64 al] 165)).alloc (.cells #[.int .u64 xh, .int .u64 xl] 165)).cell? ⟨w.heap.size, 0, none⟩ = some (.int .u64 ph) := kc _ _ (two _ _ _) u0
  have v1 : ((w2.alloc (.cells #[.int .u64 0, .int .u64 al] 165)).alloc (.cells #[.int .u64 xh, .int .u64 xl] 165)).cell? ⟨w.heap.size, 1, none⟩ = some (.int .u64 pl) := kc _ _ (two _ _ _) u1
  have v2 : ((w2.alloc (.cells #[.int .u64 0, .int .u64 al] 165)).alloc (.cells #[.int .u64 xh, .int .u64 xl] 165)).cell? ⟨w.heap.size + 1, 0, none⟩ = some (.int .u64 qh) := kc _ _ (two _ _ _) u2
  have v3 : ((w2.alloc (.cells #[.int .u64 0, .int .u64 al] 165)).alloc (.cells #[.int .u64 xh, .int .u64 xl] 165)).cell? ⟨w.heap.size + 1, 1, none⟩ = some (.int .u64 ql) := kc _ _ (two _ _ _) u3
  have v4 : ((w2.alloc (.cells #[.int .u64 0, .int .u64 al] 165)).alloc (.cells #[.int .u64 xh, .int .u64 xl] 165)).cell? ⟨w.heap.size + 1 + 1, 0, none⟩ = some (.int .i64 0) := kc _ _ (two _ _ _) u4
  have v5 : ((w2.alloc (.cells #[.int .u64 0, .int .u64 al] 165)).alloc (.cells #[.int .u64 xh, .int .u64 xl] 165)).cell? ⟨w.heap.size + 1 + 1, 1, none⟩ = some (.int .i64 0) := kc _ _ (two _ _ _) u5
  have vf0 : ((w2.alloc (.cells #[.int .u64 0, .int .u64 al] 165)).alloc (.cells #[.int .u64 xh, .int .u64 xl] 165)).frozen? ⟨w.heap.size + 1 + 1, 0, none⟩ = false := kf _ _ (two _ _ _) u4 uf0
  have vf1 : ((w2.alloc (.cells #[.int .u64 0, .int .u64 al] 165)).alloc (.cells #[.int .u64 xh, .int .u64 xl] 165)).frozen? ⟨w.heap.size + 1 + 1, 1, none⟩ = false := kf _ _ (two _ _ _) u5 uf1
  have vg0 : ((w2.alloc (.cells #[.int .u64 0, .int .u64 al] 165)).alloc (.cells #[.int .u64 xh, .int .u64 xl] 165)).cell? ⟨bg, 0, none⟩ = some (.int .u64 gh) := kc _ _ (two _ _ _) ug0
  have vg1 : ((w2.alloc (.cells #[.int .u64 0, .int .u64 al] 165)).alloc (.cells #[.int .u64 xh, .int .u64 xl] 165)).cell? ⟨bg, 1, none⟩ = some (.int .u64 gl) := kc _ _ (two _ _ _) ug1
  have vn0 : ((w2.alloc (.cells #[.int .u64 0, .int .u64 al] 165)).alloc (.cells #[.int .u64 xh, .int .u64 xl] 165)).cell? ⟨w2.heap.size, 0, none⟩ = some (.int .u64 0) := newC3 w2 _ _ _ 0
  have vn1 : ((w2.alloc (.cells #[.int .u64 0, .int .u64 al] 165)).alloc (.cells #[.int .u64 xh, .int .u64 xl] 165)).cell? ⟨w2.heap.size, 1, none⟩ = some (.int .u64 al) := newC3 w2 _ _ _ 1
  have hB3 : Below w.heap.size w ((w2.alloc (.cells #[.int .u64 0, .int .u64 al] 165)).alloc (.cells #[.int .u64 xh, .int .u64 xl] 165)) := beyond hB2 (two _ _ _)
  clear u0 u1 u2 u3 u4 u5 uf0 uf1 ug0 ug1 hB2
  generalize ((w2.alloc (.cells #[.int .u64 0, .int .u64 al] 165)).alloc (.cells #[.int .u64 xh, .int .u64 xl] 165)) = W2 at *
  generalize w2.heap.size = bn at *
  go_wp2_with fail
  refine (HD2.out _).mono ?_
  rintro e w3 ⟨rfl, hb⟩
  have u4 := kc _ _ hb v4
  have u5 := kc _ _ hb v5
  have uf0 := kf _ _ hb v4 vf0
  have uf1 := kf _ _ hb v5 vf1
  have un0 := kc _ _ hb vn0
  have un1 := kc _ _ hb vn1
  have hB4 : Below w.heap.size w w3 := beyond hB3 hb
  clear hb v0 v1 v2 v3 v4 v5 vf0 vf1 vg0 vg1 vn0 vn1 hB3 HD2 hq
  go_upto_region 6 with (fail)
  have x4 : ((w3.alloc (.cells #[.int .u64 bh, .int .u64 bl] 165)).alloc (.cells #[.int .u64 yh, .int .u64 yl] 165)).cell? ⟨w.heap.size + 1 + 1, 0, none⟩ = some (.int .i64 0) := kc _ _ (two _ _ _) u4
  have x5 : ((w3.alloc (.cells #[.int .u64 bh, .int .u64 bl] 165)).alloc (.cells #[.int .u64 yh, .int .u64 yl] 165)).cell? ⟨w.heap.size + 1 + 1, 1, none⟩ = some (.int .i64 0) := kc _ _ (two _ _ _) u5
  have xf0 : ((w3.alloc (.cells #[.int .u64 bh, .int .u64 bl] 165)).alloc (.cells #[.int .u64 yh, .int .u64 yl] 165)).frozen? ⟨w.heap.size + 1 + 1, 0, none⟩ = false := kf _ _ (two _ _ _) u4 uf0
  have xf1 : ((w3.alloc (.cells #[.int .u64 bh, .int .u64 bl] 165)).alloc (.cells #[.int .u64 yh, .int .u64 yl] 165)).frozen? ⟨w.heap.size + 1 + 1, 1, none⟩ = false := kf _ _ (two _ _ _) u5 uf1
  have xn0 : ((w3.alloc (.cells #[.int .u64 bh, .int .u64 bl] 165)).alloc (.cells #[.int .u64 yh, .int .u64 yl] 165)).cell? ⟨bn, 0, none⟩ = some (.int .u64 0) := kc _ _ (two _ _ _) un0
  have xn1 : ((w3.alloc (.cells #[.int .u64 bh, .int .u64 bl] 165)).alloc (.cells #[.int .u64 yh, .int .u64 yl] 165)).cell? ⟨bn, 1, none⟩ = some (.int .u64 al) := kc _ _ (two _ _ _) un1
  have xd0 : ((w3.alloc (.cells #[.int .u64 bh, .int .u64 bl] 165)).alloc (.cells #[.int .u64 yh, .int .u64 yl] 165)).cell? ⟨w3.heap.size, 0, none⟩ = some (.int .u64 bh) := newC3 w3 _ _ _ 0
  have xd1 : ((w3.alloc (.cells #[.int .u64 bh, .int .u64 bl] 165)).alloc (.cells #[.int .u64 yh, .int .u64 yl] 165)).cell? ⟨w3.heap.size, 1, none⟩ = some (.int .u64 bl) := newC3 w3 _ _ _ 1
  have hB5 : Below w.heap.size w ((w3.alloc (.cells #[.int .u64 bh, .int .u64 bl] 165)).alloc (.cells #[.int .u64 yh, .int .u64 yl] 165)) := beyond hB4 (two _ _ _)
  clear u4 u5 uf0 uf1 un0 un1 hB4
  generalize ((w3.alloc (.cells #[.int .u64 bh, .int .u64 bl] 165)).alloc (.cells #[.int .u64 yh, .int .u64 yl] 165)) = W3 at *
  generalize w3.heap.size = bd at *
  have y4 : ∀ O, (W3.alloc O).cell? ⟨w.heap.size + 1 + 1, 0, none⟩ = some (.int .i64 0) := fun O => kc _ _ (single _ _) x4
  have y5 : ∀ O, (W3.alloc O).cell? ⟨w.heap.size + 1 + 1, 1, none⟩ = some (.int .i64 0) := fun O => kc _ _ (single _ _) x5
  have yn0 : ∀ O, (W3.alloc O).cell? ⟨bn, 0, none⟩ = some (.int .u64 0) := fun O => kc _ _ (single _ _) xn0
  have yn1 : ∀ O, (W3.alloc O).cell? ⟨bn, 1, none⟩ = some (.int .u64 al) := fun O => kc _ _ (single _ _) xn1
  have yf0 : ∀ O, (W3.alloc O).frozen? ⟨w.heap.size + 1 + 1, 0, none⟩ = false := fun O => kf _ _ (single _ _) x4 xf0
  have yf1 : ∀ O, (W3.alloc O).frozen? ⟨w.heap.size + 1 + 1, 1, none⟩ = false := fun O => kf _ _ (single _ _) x5 xf1
  have l3 : w.heap.size + 1 + 1 < W3.heap.size := World.block_lt_of_cell? _ _ x4
  have l4 : bn < W3.heap.size := World.block_lt_of_cell? _ _ xn0
  have m1 : ¬ W3.heap.size = w.heap.size + 1 + 1 := by omega
  have m2 : ¬ w.heap.size + 1 + 1 = W3.heap.size := by omega
  have m3 : ¬ W3.heap.size = bn := by omega
  have m4 : ¬ bn = W3.heap.size := by omega
  have HB6 := hideR (show ∀ O, Below w.heap.size w (W3.alloc O) from fun O => beyond hB5 (single _ _))
  have HB5 := hideR hB5
  clear l1 l3 l4 hB5
  go_wp2_with fail
  refine bodyPost_ret (v := trip (0, 0, 20)) (by simp [results, Tryz.results133, go_sem, *]) rfl ⟨rfl, ?_⟩
  first | exact set2 HB5.out (by omega) _ _ | exact set2 (HB6.out _) (by omega) _ _ | exact HB5.out | (refine set2 (Below.setCell (HB6.out _) ?_ _) (by omega) _ _; have := (HB6.out default).size; simp at this; omega) | trace_state
set_option maxRecDepth 100000 in
set_option maxHeartbeats 8000000 in
theorem xheld_l_false_f4 (ph pl qh ql gh gl al bl xh xl yh yl : Int) (w : World) (hq : ¬ ql = 0) (e2 : ¬ 9223372036854775807 < al) (hc : 9223372036854775807 < bl)
    (HC : Hid (∀ w, Calls Tryz.prog 110 #[.agg #[.int .u64 ph, .int .u64 pl], .agg #[.int .u64 qh, .int .u64 ql]] w fun e w' => e = .returned (.agg #[.int .u64 gh, .int .u64 gl]) ∧ Below w.heap.size w w'))
    (HD1 : Hid (∀ w, Calls Tryz.prog 149 #[.agg #[.int .u64 ph, .int .u64 pl], .agg #[.int .u64 gh, .int .u64 gl]] w fun e w' => e = .returned (.tuple #[.agg #[.int .u64 0, .int .u64 al], .agg #[.int .u64 xh, .int .u64 xl]]) ∧ Below w.heap.size w w'))
    (HD2 : Hid (∀ w, Calls Tryz.prog 149 #[.agg #[.int .u64 qh, .int .u64 ql], .agg #[.int .u64 gh, .int .u64 gl]] w fun e w' => e = .returned (.tuple #[.agg #[.int .u64 0, .int .u64 bl], .agg #[.int .u64 yh, .int .u64 yl]]) ∧ Below w.heap.size w w')) :
    Calls Tryz.prog 133 #[.bool false, .agg #[.int .u64 ph, .int .u64 pl], .agg #[.int .u64 qh, .int .u64 ql]] w fun e w' => e = .returned (trip (0, 0, 20)) ∧ Below w.heap.size w w' := by
  have n1 : ¬ w.heap.size = w.heap.size + 1 + 1 := by omega
  have n2 : ¬ w.heap.size + 1 + 1 = w.heap.size := by omega
  go_enter Tryz.func133, Tryz.ntmps133
  go_wp2_with fail
  refine (HC.out _).mono ?_
  rintro e w1 ⟨rfl, hb⟩
  have s0 := kc ⟨w.heap.size, 0, none⟩ (.int .u64 ph) hb (by first | assumption | simp [go_sem, *])
  have s1 := kc ⟨w.heap.size, 1, none⟩ (.int .u64 pl) hb (by first | assumption | simp [go_sem, *])
  have s2 := kc ⟨w.heap.size + 1, 0, none⟩ (.int .u64 qh) hb (by first | assumption | simp [go_sem, *])
  have s3 := kc ⟨w.heap.size + 1, 1, none⟩ (.int .u64 ql) hb (by first | assumption | simp [go_sem, *])
  have s4 := kc ⟨w.heap.size + 1 + 1, 0, none⟩ (.int .i64 0) hb (by first | assumption | simp [go_sem, *])
  have s5 := kc ⟨w.heap.size + 1 + 1, 1, none⟩ (.int .i64 0) hb (by first | assumption | simp [go_sem, *])
  have sf0 := kf ⟨w.heap.size + 1 + 1, 0, none⟩ (.int .i64 0) hb (by first | assumption | simp [go_sem, *]) (by first | assumption | simp [go_sem, *])
  have sf1 := kf ⟨w.heap.size + 1 + 1, 1, none⟩ (.int .i64 0) hb (by first | assumption | simp [go_sem, *]) (by first | assumption | simp [go_sem, *])
  have hB1 : Below w.heap.size w w1 := beyond (three w _ _ _) hb
  clear hb
  have l1 : w.heap.size + 1 + 1 < w1.heap.size := World.block_lt_of_cell? _ _ s4
  go_upto_region 4 with (fail)
  have t0 : (w1.alloc (.cells #[.int .u64 gh, .int .u64 gl] 165)).cell? ⟨w.heap.size, 0, none⟩ = some (.int .u64 ph) := kc _ _ (single _ _) s0
  have t1 : (w1.alloc (.cells #[.int .u64 gh, .int .u64 gl] 165)).cell? ⟨w.heap.size, 1, none⟩ = some (.int .u64 pl) := kc _ _ (single _ _) s1
  have t2 : (w1.alloc (.cells #[.int .u64 gh, .int .u64 gl] 165)).cell? ⟨w.heap.size + 1, 0, none⟩ = some (.int .u64 qh) := kc _ _ (single _ _) s2
  have t3 : (w1.alloc (.cells #[.int .u64 gh, .int .u64 gl] 165)).cell? ⟨w.heap.size + 1, 1, none⟩ = some (.int .u64 ql) := kc _ _ (single _ _) s3
  have t4 : (w1.alloc (.cells #[.int .u64 gh, .int .u64 gl] 165)).cell? ⟨w.heap.size + 1 + 1, 0, none⟩ = some (.int .i64 0) := kc _ _ (single _ _) s4
  have t5 : (w1.alloc (.cells #[.int .u64 gh, .int .u64 gl] 165)).cell? ⟨w.heap.size + 1 + 1, 1, none⟩ = some (.int .i64 0) := kc _ _ (single _ _) s5
  have tf0 : (w1.alloc (.cells #[.int .u64 gh, .int .u64 gl] 165)).frozen? ⟨w.heap.size + 1 + 1, 0, none⟩ = false := kf _ _ (single _ _) s4 sf0
  have tf1 : (w1.alloc (.cells #[.int .u64 gh, .int .u64 gl] 165)).frozen? ⟨w.heap.size + 1 + 1, 1, none⟩ = false := kf _ _ (single _ _) s5 sf1
  have tg0 : (w1.alloc (.cells #[.int .u64 gh, .int .u64 gl] 165)).cell? ⟨w1.heap.size, 0, none⟩ = some (.int .u64 gh) := new_cell w1 _ _ 0
  have tg1 : (w1.alloc (.cells #[.int .u64 gh, .int .u64 gl] 165)).cell? ⟨w1.heap.size, 1, none⟩ = some (.int .u64 gl) := new_cell w1 _ _ 1
  have hBG : Below w.heap.size w (w1.alloc (.cells #[.int .u64 gh, .int .u64 gl] 165)) := beyond hB1 (single _ _)
  clear s0 s1 s2 s3 s4 s5 sf0 sf1 hB1 HC
  generalize (w1.alloc (.cells #[.int .u64 gh, .int .u64 gl] 165)) = W1 at *
  generalize w1.heap.size = bg at *
  go_wp2_with fail
  refine (HD1.out _).mono ?_
  rintro e w2 ⟨rfl, hb⟩
  have u0 := kc _ _ hb t0
  have u1 := kc _ _ hb t1
  have u2 := kc _ _ hb t2
  have u3 := kc _ _ hb t3
  have u4 := kc _ _ hb t4
  have u5 := kc _ _ hb t5
  have uf0 := kf _ _ hb t4 tf0
  have uf1 := kf _ _ hb t5 tf1
  have ug0 := kc _ _ hb tg0
  have ug1 := kc _ _ hb tg1
  have hB2 : Below w.heap.size w w2 := beyond hBG hb
  clear hb t0 t1 t2 t3 t4 t5 tf0 tf1 tg0 tg1 hBG HD1
  go_upto_region 5 with (fail)
  have v0 : ((w2.alloc (.cells #[.int .u64 0, .int .u64 al] 165)).alloc (.cells #[.int .u64 xh, .int .u64 xl] 165)).cell? ⟨w.heap.size, 0, none⟩ = some (.int .u64 ph) := kc _ _ (two _ _ _) u0
  have v1 : ((w2.alloc (.cells #[.int .u64 0, .int .u64 al] 165)).alloc (.cells #[.int .u64 xh, .int .u64 xl] 165)).cell? ⟨w.heap.size, 1, none⟩ = some (.int .u64 pl) := kc _ _ (two _ _ _) u1
  have v2 : ((w2.alloc (.cells #[.int .u64 0, .int .u64 al] 165)).alloc (.cells #[.int .u64 xh, .int .u64 xl] 165)).cell? ⟨w.heap.size + 1, 0, none⟩ = some (.int .u64 qh) := kc _ _ (two _ _ _) u2
  have v3 : ((w2.alloc (.cells #[.int .u64 0, .int .u64 al] 165)).alloc (.cells #[.int .u64 xh, .int .u64 xl] 165)).cell? ⟨w.heap.size + 1, 1, none⟩ = some (.int .u64 ql) := kc _ _ (two _ _ _) u3
  have v4 : ((w2.alloc (.cells #[.int .u64 0, .int .u64 al] 165)).alloc (.cells #[.int .u64 xh, .int .u64 xl] 165)).cell? ⟨w.heap.size + 1 + 1, 0, none⟩ = some (.int .i64 0) := kc _ _ (two _ _ _) u4
  have v5 : ((w2.alloc (.cells #[.int .u64 0, .int .u64 al] 165)).alloc (.cells #[.int .u64 xh, .int .u64 xl] 165)).cell? ⟨w.heap.size + 1 + 1, 1, none⟩ = some (.int .i64 0) := kc _ _ (two _ _ _) u5
  have vf0 : ((w2.alloc (.cells #[.int .u64 0, .int .u64 al] 165)).alloc (.cells #[.int .u64 xh, .int .u64 xl] 165)).frozen? ⟨w.heap.size + 1 + 1, 0, none⟩ = false := kf _ _ (two _ _ _) u4 uf0
  have vf1 : ((w2.alloc (.cells #[.int .u64 0, .int .u64 al] 165)).alloc (.cells #[.int .u64 xh, .int .u64 xl] 165)).frozen? ⟨w.heap.size + 1 + 1, 1, none⟩ = false := kf _ _ (two _ _ _) u5 uf1
  have vg0 : ((w2.alloc (.cells #[.int .u64 0, .int .u64 al] 165)).alloc (.cells #[.int .u64 xh, .int .u64 xl] 165)).cell? ⟨bg, 0, none⟩ = some (.int .u64 gh) := kc _ _ (two _ _ _) ug0
  have vg1 : ((w2.alloc (.cells #[.int .u64 0, .int .u64 al] 165)).alloc (.cells #[.int .u64 xh, .int .u64 xl] 165)).cell? ⟨bg, 1, none⟩ = some (.int .u64 gl) := kc _ _ (two _ _ _) ug1
  have vn0 : ((w2.alloc (.cells #[.int .u64 0, .int .u64 al] 165)).alloc (.cells #[.int .u64 xh, .int .u64 xl] 165)).cell? ⟨w2.heap.size, 0, none⟩ = some (.int .u64 0) := newC3 w2 _ _ _ 0
  have vn1 : ((w2.alloc (.cells #[.int .u64 0, .int .u64 al] 165)).alloc (.cells #[.int .u64 xh, .int .u64 xl] 165)).cell? ⟨w2.heap.size, 1, none⟩ = some (.int .u64 al) := newC3 w2 _ _ _ 1
  have hB3 : Below w.heap.size w ((w2.alloc (.cells #[.int .u64 0, .int .u64 al] 165)).alloc (.cells #[.int .u64 xh, .int .u64 xl] 165)) := beyond hB2 (two _ _ _)
  clear u0 u1 u2 u3 u4 u5 uf0 uf1 ug0 ug1 hB2
  generalize ((w2.alloc (.cells #[.int .u64 0, .int .u64 al] 165)).alloc (.cells #[.int .u64 xh, .int .u64 xl] 165)) = W2 at *
  generalize w2.heap.size = bn at *
  go_wp2_with fail
  refine (HD2.out _).mono ?_
  rintro e w3 ⟨rfl, hb⟩
  have u4 := kc _ _ hb v4
  have u5 := kc _ _ hb v5
  have uf0 := kf _ _ hb v4 vf0
  have uf1 := kf _ _ hb v5 vf1
  have un0 := kc _ _ hb vn0
  have un1 := kc _ _ hb vn1
  have hB4 : Below w.heap.size w w3 := beyond hB3 hb
  clear hb v0 v1 v2 v3 v4 v5 vf0 vf1 vg0 vg1 vn0 vn1 hB3 HD2 hq
  go_upto_region 6 with (fail)
  have x4 : ((w3.alloc (.cells #[.int .u64 0, .int .u64 bl] 165)).alloc (.cells #[.int .u64 yh, .int .u64 yl] 165)).cell? ⟨w.heap.size + 1 + 1, 0, none⟩ = some (.int .i64 0) := kc _ _ (two _ _ _) u4
  have x5 : ((w3.alloc (.cells #[.int .u64 0, .int .u64 bl] 165)).alloc (.cells #[.int .u64 yh, .int .u64 yl] 165)).cell? ⟨w.heap.size + 1 + 1, 1, none⟩ = some (.int .i64 0) := kc _ _ (two _ _ _) u5
  have xf0 : ((w3.alloc (.cells #[.int .u64 0, .int .u64 bl] 165)).alloc (.cells #[.int .u64 yh, .int .u64 yl] 165)).frozen? ⟨w.heap.size + 1 + 1, 0, none⟩ = false := kf _ _ (two _ _ _) u4 uf0
  have xf1 : ((w3.alloc (.cells #[.int .u64 0, .int .u64 bl] 165)).alloc (.cells #[.int .u64 yh, .int .u64 yl] 165)).frozen? ⟨w.heap.size + 1 + 1, 1, none⟩ = false := kf _ _ (two _ _ _) u5 uf1
  have xn0 : ((w3.alloc (.cells #[.int .u64 0, .int .u64 bl] 165)).alloc (.cells #[.int .u64 yh, .int .u64 yl] 165)).cell? ⟨bn, 0, none⟩ = some (.int .u64 0) := kc _ _ (two _ _ _) un0
  have xn1 : ((w3.alloc (.cells #[.int .u64 0, .int .u64 bl] 165)).alloc (.cells #[.int .u64 yh, .int .u64 yl] 165)).cell? ⟨bn, 1, none⟩ = some (.int .u64 al) := kc _ _ (two _ _ _) un1
  have xd0 : ((w3.alloc (.cells #[.int .u64 0, .int .u64 bl] 165)).alloc (.cells #[.int .u64 yh, .int .u64 yl] 165)).cell? ⟨w3.heap.size, 0, none⟩ = some (.int .u64 0) := newC3 w3 _ _ _ 0
  have xd1 : ((w3.alloc (.cells #[.int .u64 0, .int .u64 bl] 165)).alloc (.cells #[.int .u64 yh, .int .u64 yl] 165)).cell? ⟨w3.heap.size, 1, none⟩ = some (.int .u64 bl) := newC3 w3 _ _ _ 1
  have hB5 : Below w.heap.size w ((w3.alloc (.cells #[.int .u64 0, .int .u64 bl] 165)).alloc (.cells #[.int .u64 yh, .int .u64 yl] 165)) := beyond hB4 (two _ _ _)
  clear u4 u5 uf0 uf1 un0 un1 hB4
  generalize ((w3.alloc (.cells #[.int .u64 0, .int .u64 bl] 165)).alloc (.cells #[.int .u64 yh, .int .u64 yl] 165)) = W3 at *
  generalize w3.heap.size = bd at *
  have y4 : ∀ O, (W3.alloc O).cell? ⟨w.heap.size + 1 + 1, 0, none⟩ = some (.int .i64 0) := fun O => kc _ _ (single _ _) x4
  have y5 : ∀ O, (W3.alloc O).cell? ⟨w.heap.size + 1 + 1, 1, none⟩ = some (.int .i64 0) := fun O => kc _ _ (single _ _) x5
  have yn0 : ∀ O, (W3.alloc O).cell? ⟨bn, 0, none⟩ = some (.int .u64 0) := fun O => kc _ _ (single _ _) xn0
  have yn1 : ∀ O, (W3.alloc O).cell? ⟨bn, 1, none⟩ = some (.int .u64 al) := fun O => kc _ _ (single _ _) xn1
  have yf0 : ∀ O, (W3.alloc O).frozen? ⟨w.heap.size + 1 + 1, 0, none⟩ = false := fun O => kf _ _ (single _ _) x4 xf0
  have yf1 : ∀ O, (W3.alloc O).frozen? ⟨w.heap.size + 1 + 1, 1, none⟩ = false := fun O => kf _ _ (single _ _) x5 xf1
  have l3 : w.heap.size + 1 + 1 < W3.heap.size := World.block_lt_of_cell? _ _ x4
  have l4 : bn < W3.heap.size := World.block_lt_of_cell? _ _ xn0
  have m1 : ¬ W3.heap.size = w.heap.size + 1 + 1 := by omega
  have m2 : ¬ w.heap.size + 1 + 1 = W3.heap.size := by omega
  have m3 : ¬ W3.heap.size = bn := by omega
  have m4 : ¬ bn = W3.heap.size := by omega
  have HB6 := hideR (show ∀ O, Below w.heap.size w (W3.alloc O) from fun O => beyond hB5 (single _ _))
  have HB5 := hideR hB5
  clear l1 l3 l4 hB5
  go_wp2_with fail
  refine bodyPost_ret (v := trip (0, 0, 20)) (by simp [results, Tryz.results133, go_sem, *]) rfl ⟨rfl, ?_⟩
  first | exact set2 HB5.out (by omega) _ _ | exact set2 (HB6.out _) (by omega) _ _ | exact HB5.out | (refine set2 (Below.setCell (HB6.out _) ?_ _) (by omega) _ _; have := (HB6.out default).size; simp at this; omega) | trace_state
set_option maxRecDepth 100000 in
set_option maxHeartbeats 8000000 in
theorem xheld_l_false_ok (ph pl qh ql gh gl al bl xh xl yh yl : Int) (w : World) (hq : ¬ ql = 0) (nn : Int) (e2 : ¬ 9223372036854775807 < al) (hc : ¬ 9223372036854775807 < bl) (z1 : IntKind.i64.wrap bl = bl) (z2 : IntKind.i64.wrap al = nn)
    (HC : Hid (∀ w, Calls Tryz.prog 110 #[.agg #[.int .u64 ph, .int .u64 pl], .agg #[.int .u64 qh, .int .u64 ql]] w fun e w' => e = .returned (.agg #[.int .u64 gh, .int .u64 gl]) ∧ Below w.heap.size w w'))
    (HD1 : Hid (∀ w, Calls Tryz.prog 149 #[.agg #[.int .u64 ph, .int .u64 pl], .agg #[.int .u64 gh, .int .u64 gl]] w fun e w' => e = .returned (.tuple #[.agg #[.int .u64 0, .int .u64 al], .agg #[.int .u64 xh, .int .u64 xl]]) ∧ Below w.heap.size w w'))
    (HD2 : Hid (∀ w, Calls Tryz.prog 149 #[.agg #[.int .u64 qh, .int .u64 ql], .agg #[.int .u64 gh, .int .u64 gl]] w fun e w' => e = .returned (.tuple #[.agg #[.int .u64 0, .int .u64 bl], .agg #[.int .u64 yh, .int .u64 yl]]) ∧ Below w.heap.size w w')) :
    Calls Tryz.prog 133 #[.bool false, .agg #[.int .u64 ph, .int .u64 pl], .agg #[.int .u64 qh, .int .u64 ql]] w fun e w' => e = .returned (trip (nn, bl, 0)) ∧ Below w.heap.size w w' := by
  have n1 : ¬ w.heap.size = w.heap.size + 1 + 1 := by omega
  have n2 : ¬ w.heap.size + 1 + 1 = w.heap.size := by omega
  go_enter Tryz.func133, Tryz.ntmps133
  go_wp2_with fail
  refine (HC.out _).mono ?_
  rintro e w1 ⟨rfl, hb⟩
  have s0 := kc ⟨w.heap.size, 0, none⟩ (.int .u64 ph) hb (by first | assumption | simp [go_sem, *])
  have s1 := kc ⟨w.heap.size, 1, none⟩ (.int .u64 pl) hb (by first | assumption | simp [go_sem, *])
  have s2 := kc ⟨w.heap.size + 1, 0, none⟩ (.int .u64 qh) hb (by first | assumption | simp [go_sem, *])
  have s3 := kc ⟨w.heap.size + 1, 1, none⟩ (.int .u64 ql) hb (by first | assumption | simp [go_sem, *])
  have s4 := kc ⟨w.heap.size + 1 + 1, 0, none⟩ (.int .i64 0) hb (by first | assumption | simp [go_sem, *])
  have s5 := kc ⟨w.heap.size + 1 + 1, 1, none⟩ (.int .i64 0) hb (by first | assumption | simp [go_sem, *])
  have sf0 := kf ⟨w.heap.size + 1 + 1, 0, none⟩ (.int .i64 0) hb (by first | assumption | simp [go_sem, *]) (by first | assumption | simp [go_sem, *])
  have sf1 := kf ⟨w.heap.size + 1 + 1, 1, none⟩ (.int .i64 0) hb (by first | assumption | simp [go_sem, *]) (by first | assumption | simp [go_sem, *])
  have hB1 : Below w.heap.size w w1 := beyond (three w _ _ _) hb
  clear hb
  have l1 : w.heap.size + 1 + 1 < w1.heap.size := World.block_lt_of_cell? _ _ s4
  go_upto_region 4 with (fail)
  have t0 : (w1.alloc (.cells #[.int .u64 gh, .int .u64 gl] 165)).cell? ⟨w.heap.size, 0, none⟩ = some (.int .u64 ph) := kc _ _ (single _ _) s0
  have t1 : (w1.alloc (.cells #[.int .u64 gh, .int .u64 gl] 165)).cell? ⟨w.heap.size, 1, none⟩ = some (.int .u64 pl) := kc _ _ (single _ _) s1
  have t2 : (w1.alloc (.cells #[.int .u64 gh, .int .u64 gl] 165)).cell? ⟨w.heap.size + 1, 0, none⟩ = some (.int .u64 qh) := kc _ _ (single _ _) s2
  have t3 : (w1.alloc (.cells #[.int .u64 gh, .int .u64 gl] 165)).cell? ⟨w.heap.size + 1, 1, none⟩ = some (.int .u64 ql) := kc _ _ (single _ _) s3
  have t4 : (w1.alloc (.cells #[.int .u64 gh, .int .u64 gl] 165)).cell? ⟨w.heap.size + 1 + 1, 0, none⟩ = some (.int .i64 0) := kc _ _ (single _ _) s4
  have t5 : (w1.alloc (.cells #[.int .u64 gh, .int .u64 gl] 165)).cell? ⟨w.heap.size + 1 + 1, 1, none⟩ = some (.int .i64 0) := kc _ _ (single _ _) s5
  have tf0 : (w1.alloc (.cells #[.int .u64 gh, .int .u64 gl] 165)).frozen? ⟨w.heap.size + 1 + 1, 0, none⟩ = false := kf _ _ (single _ _) s4 sf0
  have tf1 : (w1.alloc (.cells #[.int .u64 gh, .int .u64 gl] 165)).frozen? ⟨w.heap.size + 1 + 1, 1, none⟩ = false := kf _ _ (single _ _) s5 sf1
  have tg0 : (w1.alloc (.cells #[.int .u64 gh, .int .u64 gl] 165)).cell? ⟨w1.heap.size, 0, none⟩ = some (.int .u64 gh) := new_cell w1 _ _ 0
  have tg1 : (w1.alloc (.cells #[.int .u64 gh, .int .u64 gl] 165)).cell? ⟨w1.heap.size, 1, none⟩ = some (.int .u64 gl) := new_cell w1 _ _ 1
  have hBG : Below w.heap.size w (w1.alloc (.cells #[.int .u64 gh, .int .u64 gl] 165)) := beyond hB1 (single _ _)
  clear s0 s1 s2 s3 s4 s5 sf0 sf1 hB1 HC
  generalize (w1.alloc (.cells #[.int .u64 gh, .int .u64 gl] 165)) = W1 at *
  generalize w1.heap.size = bg at *
  go_wp2_with fail
  refine (HD1.out _).mono ?_
  rintro e w2 ⟨rfl, hb⟩
  have u0 := kc _ _ hb t0
  have u1 := kc _ _ hb t1
  have u2 := kc _ _ hb t2
  have u3 := kc _ _ hb t3
  have u4 := kc _ _ hb t4
  have u5 := kc _ _ hb t5
  have uf0 := kf _ _ hb t4 tf0
  have uf1 := kf _ _ hb t5 tf1
  have ug0 := kc _ _ hb tg0
  have ug1 := kc _ _ hb tg1
  have hB2 : Below w.heap.size w w2 := beyond hBG hb
  clear hb t0 t1 t2 t3 t4 t5 tf0 tf1 tg0 tg1 hBG HD1
  go_upto_region 5 with (fail)
  have v0 : ((w2.alloc (.cells #[.int .u64 0, .int .u64 al] 165)).alloc (.cells #[.int .u64 xh, .int .u64 xl] 165)).cell? ⟨w.heap.size, 0, none⟩ = some (.int .u64 ph) := kc _ _ (two _ _ _) u0
  have v1 : ((w2.alloc (.cells #[.int .u64 0, .int .u64 al] 165)).alloc (.cells #[.int .u64 xh, .int .u64 xl] 165)).cell? ⟨w.heap.size, 1, none⟩ = some (.int .u64 pl) := kc _ _ (two _ _ _) u1
  have v2 : ((w2.alloc (.cells #[.int .u64 0, .int .u64 al] 165)).alloc (.cells #[.int .u64 xh, .int .u64 xl] 165)).cell? ⟨w.heap.size + 1, 0, none⟩ = some (.int .u64 qh) := kc _ _ (two _ _ _) u2
  have v3 : ((w2.alloc (.cells #[.int .u64 0, .int .u64 al] 165)).alloc (.cells #[.int .u64 xh, .int .u64 xl] 165)).cell? ⟨w.heap.size + 1, 1, none⟩ = some (.int .u64 ql) := kc _ _ (two _ _ _) u3
  have v4 : ((w2.alloc (.cells #[.int .u64 0, .int .u64 al] 165)).alloc (.cells #[.int .u64 xh, .int .u64 xl] 165)).cell? ⟨w.heap.size + 1 + 1, 0, none⟩ = some (.int .i64 0) := kc _ _ (two _ _ _) u4
  have v5 : ((w2.alloc (.cells #[.int .u64 0, .int .u64 al] 165)).alloc (.cells #[.int .u64 xh, .int .u64 xl] 165)).cell? ⟨w.heap.size + 1 + 1, 1, none⟩ = some (.int .i64 0) := kc _ _ (two _ _ _) u5
  have vf0 : ((w2.alloc (.cells #[.int .u64 0, .int .u64 al] 165)).alloc (.cells #[.int .u64 xh, .int .u64 xl] 165)).frozen? ⟨w.heap.size + 1 + 1, 0, none⟩ = false := kf _ _ (two _ _ _) u4 uf0
  have vf1 : ((w2.alloc (.cells #[.int .u64 0, .int .u64 al] 165)).alloc (.cells #[.int .u64 xh, .int .u64 xl] 165)).frozen? ⟨w.heap.size + 1 + 1, 1, none⟩ = false := kf _ _ (two _ _ _) u5 uf1
  have vg0 : ((w2.alloc (.cells #[.int .u64 0, .int .u64 al] 165)).alloc (.cells #[.int .u64 xh, .int .u64 xl] 165)).cell? ⟨bg, 0, none⟩ = some (.int .u64 gh) := kc _ _ (two _ _ _) ug0
  have vg1 : ((w2.alloc (.cells #[.int .u64 0, .int .u64 al] 165)).alloc (.cells #[.int .u64 xh, .int .u64 xl] 165)).cell? ⟨bg, 1, none⟩ = some (.int .u64 gl) := kc _ _ (two _ _ _) ug1
  have vn0 : ((w2.alloc (.cells #[.int .u64 0, .int .u64 al] 165)).alloc (.cells #[.int .u64 xh, .int .u64 xl] 165)).cell? ⟨w2.heap.size, 0, none⟩ = some (.int .u64 0) := newC3 w2 _ _ _ 0
  have vn1 : ((w2.alloc (.cells #[.int .u64 0, .int .u64 al] 165)).alloc (.cells #[.int .u64 xh, .int .u64 xl] 165)).cell? ⟨w2.heap.size, 1, none⟩ = some (.int .u64 al) := newC3 w2 _ _ _ 1
  have hB3 : Below w.heap.size w ((w2.alloc (.cells #[.int .u64 0, .int .u64 al] 165)).alloc (.cells #[.int .u64 xh, .int .u64 xl] 165)) := beyond hB2 (two _ _ _)
  clear u0 u1 u2 u3 u4 u5 uf0 uf1 ug0 ug1 hB2
  generalize ((w2.alloc (.cells #[.int .u64 0, .int .u64 al] 165)).alloc (.cells #[.int .u64 xh, .int .u64 xl] 165)) = W2 at *
  generalize w2.heap.size = bn at *
  go_wp2_with fail
  refine (HD2.out _).mono ?_
  rintro e w3 ⟨rfl, hb⟩
  have u4 := kc _ _ hb v4
  have u5 := kc _ _ hb v5
  have uf0 := kf _ _ hb v4 vf0
  have uf1 := kf _ _ hb v5 vf1
  have un0 := kc _ _ hb vn0
  have un1 := kc _ _ hb vn1
  have hB4 : Below w.heap.size w w3 := beyond hB3 hb
  clear hb v0 v1 v2 v3 v4 v5 vf0 vf1 vg0 vg1 vn0 vn1 hB3 HD2 hq
  go_upto_region 6 with (fail)
  have x4 : ((w3.alloc (.cells #[.int .u64 0, .int .u64 bl] 165)).alloc (.cells #[.int .u64 yh, .int .u64 yl] 165)).cell? ⟨w.heap.size + 1 + 1, 0, none⟩ = some (.int .i64 0) := kc _ _ (two _ _ _) u4
  have x5 : ((w3.alloc (.cells #[.int .u64 0, .int .u64 bl] 165)).alloc (.cells #[.int .u64 yh, .int .u64 yl] 165)).cell? ⟨w.heap.size + 1 + 1, 1, none⟩ = some (.int .i64 0) := kc _ _ (two _ _ _) u5
  have xf0 : ((w3.alloc (.cells #[.int .u64 0, .int .u64 bl] 165)).alloc (.cells #[.int .u64 yh, .int .u64 yl] 165)).frozen? ⟨w.heap.size + 1 + 1, 0, none⟩ = false := kf _ _ (two _ _ _) u4 uf0
  have xf1 : ((w3.alloc (.cells #[.int .u64 0, .int .u64 bl] 165)).alloc (.cells #[.int .u64 yh, .int .u64 yl] 165)).frozen? ⟨w.heap.size + 1 + 1, 1, none⟩ = false := kf _ _ (two _ _ _) u5 uf1
  have xn0 : ((w3.alloc (.cells #[.int .u64 0, .int .u64 bl] 165)).alloc (.cells #[.int .u64 yh, .int .u64 yl] 165)).cell? ⟨bn, 0, none⟩ = some (.int .u64 0) := kc _ _ (two _ _ _) un0
  have xn1 : ((w3.alloc (.cells #[.int .u64 0, .int .u64 bl] 165)).alloc (.cells #[.int .u64 yh, .int .u64 yl] 165)).cell? ⟨bn, 1, none⟩ = some (.int .u64 al) := kc _ _ (two _ _ _) un1
  have xd0 : ((w3.alloc (.cells #[.int .u64 0, .int .u64 bl] 165)).alloc (.cells #[.int .u64 yh, .int .u64 yl] 165)).cell? ⟨w3.heap.size, 0, none⟩ = some (.int .u64 0) := newC3 w3 _ _ _ 0
  have xd1 : ((w3.alloc (.cells #[.int .u64 0, .int .u64 bl] 165)).alloc (.cells #[.int .u64 yh, .int .u64 yl] 165)).cell? ⟨w3.heap.size, 1, none⟩ = some (.int .u64 bl) := newC3 w3 _ _ _ 1
  have hB5 : Below w.heap.size w ((w3.alloc (.cells #[.int .u64 0, .int .u64 bl] 165)).alloc (.cells #[.int .u64 yh, .int .u64 yl] 165)) := beyond hB4 (two _ _ _)
  clear u4 u5 uf0 uf1 un0 un1 hB4
  generalize ((w3.alloc (.cells #[.int .u64 0, .int .u64 bl] 165)).alloc (.cells #[.int .u64 yh, .int .u64 yl] 165)) = W3 at *
  generalize w3.heap.size = bd at *
  have y4 : ∀ O, (W3.alloc O).cell? ⟨w.heap.size + 1 + 1, 0, none⟩ = some (.int .i64 0) := fun O => kc _ _ (single _ _) x4
  have y5 : ∀ O, (W3.alloc O).cell? ⟨w.heap.size + 1 + 1, 1, none⟩ = some (.int .i64 0) := fun O => kc _ _ (single _ _) x5
  have yn0 : ∀ O, (W3.alloc O).cell? ⟨bn, 0, none⟩ = some (.int .u64 0) := fun O => kc _ _ (single _ _) xn0
  have yn1 : ∀ O, (W3.alloc O).cell? ⟨bn, 1, none⟩ = some (.int .u64 al) := fun O => kc _ _ (single _ _) xn1
  have yf0 : ∀ O, (W3.alloc O).frozen? ⟨w.heap.size + 1 + 1, 0, none⟩ = false := fun O => kf _ _ (single _ _) x4 xf0
  have yf1 : ∀ O, (W3.alloc O).frozen? ⟨w.heap.size + 1 + 1, 1, none⟩ = false := fun O => kf _ _ (single _ _) x5 xf1
  have l3 : w.heap.size + 1 + 1 < W3.heap.size := World.block_lt_of_cell? _ _ x4
  have l4 : bn < W3.heap.size := World.block_lt_of_cell? _ _ xn0
  have m1 : ¬ W3.heap.size = w.heap.size + 1 + 1 := by omega
  have m2 : ¬ w.heap.size + 1 + 1 = W3.heap.size := by omega
  have m3 : ¬ W3.heap.size = bn := by omega
  have m4 : ¬ bn = W3.heap.size := by omega
  have HB6 := hideR (show ∀ O, Below w.heap.size w (W3.alloc O) from fun O => beyond hB5 (single _ _))
  have HB5 := hideR hB5
  clear l1 l3 l4 hB5
  go_wp2_with fail
  refine bodyPost_ret (v := trip (nn, bl, 0)) (by simp [results, Tryz.results133, go_sem, *]) rfl ⟨rfl, ?_⟩
  first | exact set2 HB5.out (by omega) _ _ | exact set2 (HB6.out _) (by omega) _ _ | exact HB5.out | (refine set2 (Below.setCell (HB6.out _) ?_ _) (by omega) _ _; have := (HB6.out default).size; simp at this; omega) | trace_state
set_option maxRecDepth 100000 in
set_option maxHeartbeats 8000000 in
theorem xheld_l_true_f1 (ph pl qh ql gh gl ah al bh bl xh xl yh yl : Int) (w : World) (hq : ¬ ql = 0) (hc : ¬ ah = 0)
    (HC : Hid (∀ w, Calls Tryz.prog 110 #[.agg #[.int .u64 ph, .int .u64 pl], .agg #[.int .u64 qh, .int .u64 ql]] w fun e w' => e = .returned (.agg #[.int .u64 gh, .int .u64 gl]) ∧ Below w.heap.size w w'))
    (HD1 : Hid (∀ w, Calls Tryz.prog 149 #[.agg #[.int .u64 ph, .int .u64 pl], .agg #[.int .u64 gh, .int .u64 gl]] w fun e w' => e = .returned (.tuple #[.agg #[.int .u64 ah, .int .u64 al], .agg #[.int .u64 xh, .int .u64 xl]]) ∧ Below w.heap.size w w'))
    (HD2 : Hid (∀ w, Calls Tryz.prog 149 #[.agg #[.int .u64 qh, .int .u64 ql], .agg #[.int .u64 gh, .int .u64 gl]] w fun e w' => e = .returned (.tuple #[.agg #[.int .u64 bh, .int .u64 bl], .agg #[.int .u64 yh, .int .u64 yl]]) ∧ Below w.heap.size w w')) :
    Calls Tryz.prog 133 #[.bool true, .agg #[.int .u64 ph, .int .u64 pl], .agg #[.int .u64 qh, .int .u64 ql]] w fun e w' => e = .returned (trip (0, 0, 20)) ∧ Below w.heap.size w w' := by
  have n1 : ¬ w.heap.size = w.heap.size + 1 + 1 := by omega
  have n2 : ¬ w.heap.size + 1 + 1 = w.heap.size := by omega
  go_enter Tryz.func133, Tryz.ntmps133
  go_wp2_with fail
  refine (HC.out _).mono ?_
  rintro e w1 ⟨rfl, hb⟩
  have s0 := kc ⟨w.heap.size, 0, none⟩ (.int .u64 ph) hb (by first | assumption | simp [go_sem, *])
  have s1 := kc ⟨w.heap.size, 1, none⟩ (.int .u64 pl) hb (by first | assumption | simp [go_sem, *])
  have s2 := kc ⟨w.heap.size + 1, 0, none⟩ (.int .u64 qh) hb (by first | assumption | simp [go_sem, *])
  have s3 := kc ⟨w.heap.size + 1, 1, none⟩ (.int .u64 ql) hb (by first | assumption | simp [go_sem, *])
  have s4 := kc ⟨w.heap.size + 1 + 1, 0, none⟩ (.int .i64 0) hb (by first | assumption | simp [go_sem, *])
  have s5 := kc ⟨w.heap.size + 1 + 1, 1, none⟩ (.int .i64 0) hb (by first | assumption | simp [go_sem, *])
  have sf0 := kf ⟨w.heap.size + 1 + 1, 0, none⟩ (.int .i64 0) hb (by first | assumption | simp [go_sem, *]) (by first | assumption | simp [go_sem, *])
  have sf1 := kf ⟨w.heap.size + 1 + 1, 1, none⟩ (.int .i64 0) hb (by first | assumption | simp [go_sem, *]) (by first | assumption | simp [go_sem, *])
  have hB1 : Below w.heap.size w w1 := beyond (three w _ _ _) hb
  clear hb
  have l1 : w.heap.size + 1 + 1 < w1.heap.size := World.block_lt_of_cell? _ _ s4
  go_upto_region 4 with (fail)
  have t0 : (w1.alloc (.cells #[.int .u64 gh, .int .u64 gl] 165)).cell? ⟨w.heap.size, 0, none⟩ = some (.int .u64 ph) := kc _ _ (single _ _) s0
  have t1 : (w1.alloc (.cells #[.int .u64 gh, .int .u64 gl] 165)).cell? ⟨w.heap.size, 1, none⟩ = some (.int .u64 pl) := kc _ _ (single _ _) s1
  have t2 : (w1.alloc (.cells #[.int .u64 gh, .int .u64 gl] 165)).cell? ⟨w.heap.size + 1, 0, none⟩ = some (.int .u64 qh) := kc _ _ (single _ _) s2
  have t3 : (w1.alloc (.cells #[.int .u64 gh, .int .u64 gl] 165)).cell? ⟨w.heap.size + 1, 1, none⟩ = some (.int .u64 ql) := kc _ _ (single _ _) s3
  have t4 : (w1.alloc (.cells #[.int .u64 gh, .int .u64 gl] 165)).cell? ⟨w.heap.size + 1 + 1, 0, none⟩ = some (.int .i64 0) := kc _ _ (single _ _) s4
  have t5 : (w1.alloc (.cells #[.int .u64 gh, .int .u64 gl] 165)).cell? ⟨w.heap.size + 1 + 1, 1, none⟩ = some (.int .i64 0) := kc _ _ (single _ _) s5
  have tf0 : (w1.alloc (.cells #[.int .u64 gh, .int .u64 gl] 165)).frozen? ⟨w.heap.size + 1 + 1, 0, none⟩ = false := kf _ _ (single _ _) s4 sf0
  have tf1 : (w1.alloc (.cells #[.int .u64 gh, .int .u64 gl] 165)).frozen? ⟨w.heap.size + 1 + 1, 1, none⟩ = false := kf _ _ (single _ _) s5 sf1
  have tg0 : (w1.alloc (.cells #[.int .u64 gh, .int .u64 gl] 165)).cell? ⟨w1.heap.size, 0, none⟩ = some (.int .u64 gh) := new_cell w1 _ _ 0
  have tg1 : (w1.alloc (.cells #[.int .u64 gh, .int .u64 gl] 165)).cell? ⟨w1.heap.size, 1, none⟩ = some (.int .u64 gl) := new_cell w1 _ _ 1
  have hBG : Below w.heap.size w (w1.alloc (.cells #[.int .u64 gh, .int .u64 gl] 165)) := beyond hB1 (single _ _)
  clear s0 s1 s2 s3 s4 s5 sf0 sf1 hB1 HC
  generalize (w1.alloc (.cells #[.int .u64 gh, .int .u64 gl] 165)) = W1 at *
  generalize w1.heap.size = bg at *
  go_wp2_with fail
  refine (HD1.out _).mono ?_
  rintro e w2 ⟨rfl, hb⟩
  have u0 := kc _ _ hb t0
  have u1 := kc _ _ hb t1
  have u2 := kc _ _ hb t2
  have u3 := kc _ _ hb t3
  have u4 := kc _ _ hb t4
  have u5 := kc _ _ hb t5
  have uf0 := kf _ _ hb t4 tf0
  have uf1 := kf _ _ hb t5 tf1
  have ug0 := kc _ _ hb tg0
  have ug1 := kc _ _ hb tg1
  have hB2 : Below w.heap.size w w2 := beyond hBG hb
  clear hb t0 t1 t2 t3 t4 t5 tf0 tf1 tg0 tg1 hBG HD1
  go_upto_region 5 with (fail)
  have v0 : ((w2.alloc (.cells #[.int .u64 ah, .int .u64 al] 165)).alloc (.cells #[.int .u64 xh, .int .u64 xl] 165)).cell? ⟨w.heap.size, 0, none⟩ = some (.int .u64 ph) := kc _ _ (two _ _ _) u0
  have v1 : ((w2.alloc (.cells #[.int .u64 ah, .int .u64 al] 165)).alloc (.cells #[.int .u64 xh, .int .u64 xl] 165)).cell? ⟨w.heap.size, 1, none⟩ = some (.int .u64 pl) := kc _ _ (two _ _ _) u1
  have v2 : ((w2.alloc (.cells #[.int .u64 ah, .int .u64 al] 165)).alloc (.cells #[.int .u64 xh, .int .u64 xl] 165)).cell? ⟨w.heap.size + 1, 0, none⟩ = some (.int .u64 qh) := kc _ _ (two _ _ _) u2
  have v3 : ((w2.alloc (.cells #[.int .u64 ah, .int .u64 al] 165)).alloc (.cells #[.int .u64 xh, .int .u64 xl] 165)).cell? ⟨w.heap.size + 1, 1, none⟩ = some (.int .u64 ql) := kc _ _ (two _ _ _) u3
  have v4 : ((w2.alloc (.cells #[.int .u64 ah, .int .u64 al] 165)).alloc (.cells #[.int .u64 xh, .int .u64 xl] 165)).cell? ⟨w.heap.size + 1 + 1, 0, none⟩ = some (.int .i64 0) := kc _ _ (two _ _ _) u4
  have v5 : ((w2.alloc (.cells #[.int .u64 ah, .int .u64 al] 165)).alloc (.cells #[.int .u64 xh, .int .u64 xl] 165)).cell? ⟨w.heap.size + 1 + 1, 1, none⟩ = some (.int .i64 0) := kc _ _ (two _ _ _) u5
  have vf0 : ((w2.alloc (.cells #[.int .u64 ah, .int .u64 al] 165)).alloc (.cells #[.int .u64 xh, .int .u64 xl] 165)).frozen? ⟨w.heap.size + 1 + 1, 0, none⟩ = false := kf _ _ (two _ _ _) u4 uf0
  have vf1 : ((w2.alloc (.cells #[.int .u64 ah, .int .u64 al] 165)).alloc (.cells #[.int .u64 xh, .int .u64 xl] 165)).frozen? ⟨w.heap.size + 1 + 1, 1, none⟩ = false := kf _ _ (two _ _ _) u5 uf1
  have vg0 : ((w2.alloc (.cells #[.int .u64 ah, .int .u64 al] 165)).alloc (.cells #[.int .u64 xh, .int .u64 xl] 165)).cell? ⟨bg, 0, none⟩ = some (.int .u64 gh) := kc _ _ (two _ _ _) ug0
  have vg1 : ((w2.alloc (.cells #[.int .u64 ah, .int .u64 al] 165)).alloc (.cells #[.int .u64 xh, .int .u64 xl] 165)).cell? ⟨bg, 1, none⟩ = some (.int .u64 gl) := kc _ _ (two _ _ _) ug1
  have vn0 : ((w2.alloc (.cells #[.int .u64 ah, .int .u64 al] 165)).alloc (.cells #[.int .u64 xh, .int .u64 xl] 165)).cell? ⟨w2.heap.size, 0, none⟩ = some (.int .u64 ah) := newC3 w2 _ _ _ 0
  have vn1 : ((w2.alloc (.cells #[.int .u64 ah, .int .u64 al] 165)).alloc (.cells #[.int .u64 xh, .int .u64 xl] 165)).cell? ⟨w2.heap.size, 1, none⟩ = some (.int .u64 al) := newC3 w2 _ _ _ 1
  have hB3 : Below w.heap.size w ((w2.alloc (.cells #[.int .u64 ah, .int .u64 al] 165)).alloc (.cells #[.int .u64 xh, .int .u64 xl] 165)) := beyond hB2 (two _ _ _)
  clear u0 u1 u2 u3 u4 u5 uf0 uf1 ug0 ug1 hB2
  generalize ((w2.alloc (.cells #[.int .u64 ah, .int .u64 al] 165)).alloc (.cells #[.int .u64 xh, .int .u64 xl] 165)) = W2 at *
  generalize w2.heap.size = bn at *
  go_wp2_with fail
  refine (HD2.out _).mono ?_
  rintro e w3 ⟨rfl, hb⟩
  have u4 := kc _ _ hb v4
  have u5 := kc _ _ hb v5
  have uf0 := kf _ _ hb v4 vf0
  have uf1 := kf _ _ hb v5 vf1
  have un0 := kc _ _ hb vn0
  have un1 := kc _ _ hb vn1
  have hB4 : Below w.heap.size w w3 := beyond hB3 hb
  clear hb v0 v1 v2 v3 v4 v5 vf0 vf1 vg0 vg1 vn0 vn1 hB3 HD2 hq
  go_upto_region 6 with (fail)
  have x4 : ((w3.alloc (.cells #[.int .u64 bh, .int .u64 bl] 165)).alloc (.cells #[.int .u64 yh, .int .u64 yl] 165)).cell? ⟨w.heap.size + 1 + 1, 0, none⟩ = some (.int .i64 0) := kc _ _ (two _ _ _) u4
  have x5 : ((w3.alloc (.cells #[.int .u64 bh, .int .u64 bl] 165)).alloc (.cells #[.int .u64 yh, .int .u64 yl] 165)).cell? ⟨w.heap.size + 1 + 1, 1, none⟩ = some (.int .i64 0) := kc _ _ (two _ _ _) u5
  have xf0 : ((w3.alloc (.cells #[.int .u64 bh, .int .u64 bl] 165)).alloc (.cells #[.int .u64 yh, .int .u64 yl] 165)).frozen? ⟨w.heap.size + 1 + 1, 0, none⟩ = false := kf _ _ (two _ _ _) u4 uf0
  have xf1 : ((w3.alloc (.cells #[.int .u64 bh, .int .u64 bl] 165)).alloc (.cells #[.int .u64 yh, .int .u64 yl] 165)).frozen? ⟨w.heap.size + 1 + 1, 1, none⟩ = false := kf _ _ (two _ _ _) u5 uf1
  have xn0 : ((w3.alloc (.cells #[.int .u64 bh, .int .u64 bl] 165)).alloc (.cells #[.int .u64 yh, .int .u64 yl] 165)).cell? ⟨bn, 0, none⟩ = some (.int .u64 ah) := kc _ _ (two _ _ _) un0
  have xn1 : ((w3.alloc (.cells #[.int .u64 bh, .int .u64 bl] 165)).alloc (.cells #[.int .u64 yh, .int .u64 yl] 165)).cell? ⟨bn, 1, none⟩ = some (.int .u64 al) := kc _ _ (two _ _ _) un1
  have xd0 : ((w3.alloc (.cells #[.int .u64 bh, .int .u64 bl] 165)).alloc (.cells #[.int .u64 yh, .int .u64 yl] 165)).cell? ⟨w3.heap.size, 0, none⟩ = some (.int .u64 bh) := newC3 w3 _ _ _ 0
  have xd1 : ((w3.alloc (.cells #[.int .u64 bh, .int .u64 bl] 165)).alloc (.cells #[.int .u64 yh, .int .u64 yl] 165)).cell? ⟨w3.heap.size, 1, none⟩ = some (.int .u64 bl) := newC3 w3 _ _ _ 1
  have hB5 : Below w.heap.size w ((w3.alloc (.cells #[.int .u64 bh, .int .u64 bl] 165)).alloc (.cells #[.int .u64 yh, .int .u64 yl] 165)) := beyond hB4 (two _ _ _)
  clear u4 u5 uf0 uf1 un0 un1 hB4
  generalize ((w3.alloc (.cells #[.int .u64 bh, .int .u64 bl] 165)).alloc (.cells #[.int .u64 yh, .int .u64 yl] 165)) = W3 at *
  generalize w3.heap.size = bd at *
  have y4 : ∀ O, (W3.alloc O).cell? ⟨w.heap.size + 1 + 1, 0, none⟩ = some (.int .i64 0) := fun O => kc _ _ (single _ _) x4
  have y5 : ∀ O, (W3.alloc O).cell? ⟨w.heap.size + 1 + 1, 1, none⟩ = some (.int .i64 0) := fun O => kc _ _ (single _ _) x5
  have yn0 : ∀ O, (W3.alloc O).cell? ⟨bn, 0, none⟩ = some (.int .u64 ah) := fun O => kc _ _ (single _ _) xn0
  have yn1 : ∀ O, (W3.alloc O).cell? ⟨bn, 1, none⟩ = some (.int .u64 al) := fun O => kc _ _ (single _ _) xn1
  have yf0 : ∀ O, (W3.alloc O).frozen? ⟨w.heap.size + 1 + 1, 0, none⟩ = false := fun O => kf _ _ (single _ _) x4 xf0
  have yf1 : ∀ O, (W3.alloc O).frozen? ⟨w.heap.size + 1 + 1, 1, none⟩ = false := fun O => kf _ _ (single _ _) x5 xf1
  have l3 : w.heap.size + 1 + 1 < W3.heap.size := World.block_lt_of_cell? _ _ x4
  have l4 : bn < W3.heap.size := World.block_lt_of_cell? _ _ xn0
  have m1 : ¬ W3.heap.size = w.heap.size + 1 + 1 := by omega
  have m2 : ¬ w.heap.size + 1 + 1 = W3.heap.size := by omega
  have m3 : ¬ W3.heap.size = bn := by omega
  have m4 : ¬ bn = W3.heap.size := by omega
  have HB6 := hideR (show ∀ O, Below w.heap.size w (W3.alloc O) from fun O => beyond hB5 (single _ _))
  have HB5 := hideR hB5
  clear l1 l3 l4 hB5
  go_wp2_with fail
  refine bodyPost_ret (v := trip (0, 0, 20)) (by simp [results, Tryz.results133, go_sem, *]) rfl ⟨rfl, ?_⟩
  first | exact set2 HB5.out (by omega) _ _ | exact set2 (HB6.out _) (by omega) _ _ | exact HB5.out | (refine set2 (Below.setCell (HB6.out _) ?_ _) (by omega) _ _; have := (HB6.out default).size; simp at this; omega) | trace_state
set_option maxRecDepth 100000 in
set_option maxHeartbeats 8000000 in
theorem xheld_l_true_f2 (ph pl qh ql gh gl al bh bl xh xl yh yl : Int) (w : World) (hq : ¬ ql = 0) (hc : 9223372036854775808 < al)
    (HC : Hid (∀ w, Calls Tryz.prog 110 #[.agg #[.int .u64 ph, .int .u64 pl], .agg #[.int .u64 qh, .int .u64 ql]] w fun e w' => e = .returned (.agg #[.int .u64 gh, .int .u64 gl]) ∧ Below w.heap.size w w'))
    (HD1 : Hid (∀ w, Calls Tryz.prog 149 #[.agg #[.int .u64 ph, .int .u64 pl], .agg #[.int .u64 gh, .int .u64 gl]] w fun e w' => e = .returned (.tuple #[.agg #[.int .u64 0, .int .u64 al], .agg #[.int .u64 xh, .int .u64 xl]]) ∧ Below w.heap.size w w'))
    (HD2 : Hid (∀ w, Calls Tryz.prog 149 #[.agg #[.int .u64 qh, .int .u64 ql], .agg #[.int .u64 gh, .int .u64 gl]] w fun e w' => e = .returned (.tuple #[.agg #[.int .u64 bh, .int .u64 bl], .agg #[.int .u64 yh, .int .u64 yl]]) ∧ Below w.heap.size w w')) :
    Calls Tryz.prog 133 #[.bool true, .agg #[.int .u64 ph, .int .u64 pl], .agg #[.int .u64 qh, .int .u64 ql]] w fun e w' => e = .returned (trip (0, 0, 20)) ∧ Below w.heap.size w w' := by
  have n1 : ¬ w.heap.size = w.heap.size + 1 + 1 := by omega
  have n2 : ¬ w.heap.size + 1 + 1 = w.heap.size := by omega
  go_enter Tryz.func133, Tryz.ntmps133
  go_wp2_with fail
  refine (HC.out _).mono ?_
  rintro e w1 ⟨rfl, hb⟩
  have s0 := kc ⟨w.heap.size, 0, none⟩ (.int .u64 ph) hb (by first | assumption | simp [go_sem, *])
  have s1 := kc ⟨w.heap.size, 1, none⟩ (.int .u64 pl) hb (by first | assumption | simp [go_sem, *])
  have s2 := kc ⟨w.heap.size + 1, 0, none⟩ (.int .u64 qh) hb (by first | assumption | simp [go_sem, *])
  have s3 := kc ⟨w.heap.size + 1, 1, none⟩ (.int .u64 ql) hb (by first | assumption | simp [go_sem, *])
  have s4 := kc ⟨w.heap.size + 1 + 1, 0, none⟩ (.int .i64 0) hb (by first | assumption | simp [go_sem, *])
  have s5 := kc ⟨w.heap.size + 1 + 1, 1, none⟩ (.int .i64 0) hb (by first | assumption | simp [go_sem, *])
  have sf0 := kf ⟨w.heap.size + 1 + 1, 0, none⟩ (.int .i64 0) hb (by first | assumption | simp [go_sem, *]) (by first | assumption | simp [go_sem, *])
  have sf1 := kf ⟨w.heap.size + 1 + 1, 1, none⟩ (.int .i64 0) hb (by first | assumption | simp [go_sem, *]) (by first | assumption | simp [go_sem, *])
  have hB1 : Below w.heap.size w w1 := beyond (three w _ _ _) hb
  clear hb
  have l1 : w.heap.size + 1 + 1 < w1.heap.size := World.block_lt_of_cell? _ _ s4
  go_upto_region 4 with (fail)
  have t0 : (w1.alloc (.cells #[.int .u64 gh, .int .u64 gl] 165)).cell? ⟨w.heap.size, 0, none⟩ = some (.int .u64 ph) := kc _ _ (single _ _) s0
  have t1 : (w1.alloc (.cells #[.int .u64 gh, .int .u64 gl] 165)).cell? ⟨w.heap.size, 1, none⟩ = some (.int .u64 pl) := kc _ _ (single _ _) s1
  have t2 : (w1.alloc (.cells #[.int .u64 gh, .int .u64 gl] 165)).cell? ⟨w.heap.size + 1, 0, none⟩ = some (.int .u64 qh) := kc _ _ (single _ _) s2
  have t3 : (w1.alloc (.cells #[.int .u64 gh, .int .u64 gl] 165)).cell? ⟨w.heap.size + 1, 1, none⟩ = some (.int .u64 ql) := kc _ _ (single _ _) s3
  have t4 : (w1.alloc (.cells #[.int .u64 gh, .int .u64 gl] 165)).cell? ⟨w.heap.size + 1 + 1, 0, none⟩ = some (.int .i64 0) := kc _ _ (single _ _) s4
  have t5 : (w1.alloc (.cells #[.int .u64 gh, .int .u64 gl] 165)).cell? ⟨w.heap.size + 1 + 1, 1, none⟩ = some (.int .i64 0) := kc _ _ (single _ _) s5
  have tf0 : (w1.alloc (.cells #[.int .u64 gh, .int .u64 gl] 165)).frozen? ⟨w.heap.size + 1 + 1, 0, none⟩ = false := kf _ _ (single _ _) s4 sf0
  have tf1 : (w1.alloc (.cells #[.int .u64 gh, .int .u64 gl] 165)).frozen? ⟨w.heap.size + 1 + 1, 1, none⟩ = false := kf _ _ (single _ _) s5 sf1
  have tg0 : (w1.alloc (.cells #[.int .u64 gh, .int .u64 gl] 165)).cell? ⟨w1.heap.size, 0, none⟩ = some (.int .u64 gh) := new_cell w1 _ _ 0
  have tg1 : (w1.alloc (.cells #[.int .u64 gh, .int .u64 gl] 165)).cell? ⟨w1.heap.size, 1, none⟩ = some (.int .u64 gl) := new_cell w1 _ _ 1
  have hBG : Below w.heap.size w (w1.alloc (.cells #[.int .u64 gh, .int .u64 gl] 165)) := beyond hB1 (single _ _)
  clear s0 s1 s2 s3 s4 s5 sf0 sf1 hB1 HC
  generalize (w1.alloc (.cells #[.int .u64 gh, .int .u64 gl] 165)) = W1 at *
  generalize w1.heap.size = bg at *
  go_wp2_with fail
  refine (HD1.out _).mono ?_
  rintro e w2 ⟨rfl, hb⟩
  have u0 := kc _ _ hb t0
  have u1 := kc _ _ hb t1
  have u2 := kc _ _ hb t2
  have u3 := kc _ _ hb t3
  have u4 := kc _ _ hb t4
  have u5 := kc _ _ hb t5
  have uf0 := kf _ _ hb t4 tf0
  have uf1 := kf _ _ hb t5 tf1
  have ug0 := kc _ _ hb tg0
  have ug1 := kc _ _ hb tg1
  have hB2 : Below w.heap.size w w2 := beyond hBG hb
  clear hb t0 t1 t2 t3 t4 t5 tf0 tf1 tg0 tg1 hBG HD1
  go_upto_region 5 with (fail)
  have v0 : ((w2.alloc (.cells #[.int .u64 0, .int .u64 al] 165)).alloc (.cells #[.int .u64 xh, .int .u64 xl] 165)).cell? ⟨w.heap.size, 0, none⟩ = some (.int .u64 ph) := kc _ _ (two _ _ _) u0
  have v1 : ((w2.alloc (.cells #[.int .u64 0, .int .u64 al] 165)).alloc (.cells #[.int .u64 xh, .int .u64 xl] 165)).cell? ⟨w.heap.size, 1, none⟩ = some (.int .u64 pl) := kc _ _ (two _ _ _) u1
  have v2 : ((w2.alloc (.cells #[.int .u64 0, .int .u64 al] 165)).alloc (.cells #[.int .u64 xh, .int .u64 xl] 165)).cell? ⟨w.heap.size + 1, 0, none⟩ = some (.int .u64 qh) := kc _ _ (two _ _ _) u2
  have v3 : ((w2.alloc (.cells #[.int .u64 0, .int .u64 al] 165)).alloc (.cells #[.int .u64 xh, .int .u64 xl] 165)).cell? ⟨w.heap.size + 1, 1, none⟩ = some (.int .u64 ql) := kc _ _ (two _ _ _) u3
  have v4 : ((w2.alloc (.cells #[.int .u64 0, .int .u64 al] 165)).alloc (.cells #[.int .u64 xh, .int .u64 xl] 165)).cell? ⟨w.heap.size + 1 + 1, 0, none⟩ = some (.int .i64 0) := kc _ _ (two _ _ _) u4
  have v5 : ((w2.alloc (.cells #[.int .u64 0, .int .u64 al] 165)).alloc (.cells #[.int .u64 xh, .int .u64 xl] 165)).cell? ⟨w.heap.size + 1 + 1, 1, none⟩ = some (.int .i64 0) := kc _ _ (two _ _ _) u5
  have vf0 : ((w2.alloc (.cells #[.int .u64 0, .int .u64 al] 165)).alloc (.cells #[.int .u64 xh, .int .u64 xl] 165)).frozen? ⟨w.heap.size + 1 + 1, 0, none⟩ = false := kf _ _ (two _ _ _) u4 uf0
  have vf1 : ((w2.alloc (.cells #[.int .u64 0, .int .u64 al] 165)).alloc (.cells #[.int .u64 xh, .int .u64 xl] 165)).frozen? ⟨w.heap.size + 1 + 1, 1, none⟩ = false := kf _ _ (two _ _ _) u5 uf1
  have vg0 : ((w2.alloc (.cells #[.int .u64 0, .int .u64 al] 165)).alloc (.cells #[.int .u64 xh, .int .u64 xl] 165)).cell? ⟨bg, 0, none⟩ = some (.int .u64 gh) := kc _ _ (two _ _ _) ug0
  have vg1 : ((w2.alloc (.cells #[.int .u64 0, .int .u64 al] 165)).alloc (.cells #[.int .u64 xh, .int .u64 xl] 165)).cell? ⟨bg, 1, none⟩ = some (.int .u64 gl) := kc _ _ (two _ _ _) ug1
  have vn0 : ((w2.alloc (.cells #[.int .u64 0, .int .u64 al] 165)).alloc (.cells #[.int .u64 xh, .int .u64 xl] 165)).cell? ⟨w2.heap.size, 0, none⟩ = some (.int .u64 0) := newC3 w2 _ _ _ 0
  have vn1 : ((w2.alloc (.cells #[.int .u64 0, .int .u64 al] 165)).alloc (.cells #[.int .u64 xh, .int .u64 xl] 165)).cell? ⟨w2.heap.size, 1, none⟩ = some (.int .u64 al) := newC3 w2 _ _ _ 1
  have hB3 : Below w.heap.size w ((w2.alloc (.cells #[.int .u64 0, .int .u64 al] 165)).alloc (.cells #[.int .u64 xh, .int .u64 xl] 165)) := beyond hB2 (two _ _ _)
  clear u0 u1 u2 u3 u4 u5 uf0 uf1 ug0 ug1 hB2
  generalize ((w2.alloc (.cells #[.int .u64 0, .int .u64 al] 165)).alloc (.cells #[.int .u64 xh, .int .u64 xl] 165)) = W2 at *
  generalize w2.heap.size = bn at *
  go_wp2_with fail
  refine (HD2.out _).mono ?_
  rintro e w3 ⟨rfl, hb⟩
  have u4 := kc _ _ hb v4
  have u5 := kc _ _ hb v5
  have uf0 := kf _ _ hb v4 vf0
  have uf1 := kf _ _ hb v5 vf1
  have un0 := kc _ _ hb vn0
  have un1 := kc _ _ hb vn1
  have hB4 : Below w.heap.size w w3 := beyond hB3 hb
  clear hb v0 v1 v2 v3 v4 v5 vf0 vf1 vg0 vg1 vn0 vn1 hB3 HD2 hq
  go_upto_region 6 with (fail)
  have x4 : ((w3.alloc (.cells #[.int .u64 bh, .int .u64 bl] 165)).alloc (.cells #[.int .u64 yh, .int .u64 yl] 165)).cell? ⟨w.heap.size + 1 + 1, 0, none⟩ = some (.int .i64 0) := kc _ _ (two _ _ _) u4
  have x5 : ((w3.alloc (.cells #[.int .u64 bh, .int .u64 bl] 165)).alloc (.cells #[.int .u64 yh, .int .u64 yl] 165)).cell? ⟨w.heap.size + 1 + 1, 1, none⟩ = some (.int .i64 0) := kc _ _ (two _ _ _) u5
  have xf0 : ((w3.alloc (.cells #[.int .u64 bh, .int .u64 bl] 165)).alloc (.cells #[.int .u64 yh, .int .u64 yl] 165)).frozen? ⟨w.heap.size + 1 + 1, 0, none⟩ = false := kf _ _ (two _ _ _) u4 uf0
  have xf1 : ((w3.alloc (.cells #[.int .u64 bh, .int .u64 bl] 165)).alloc (.cells #[.int .u64 yh, .int .u64 yl] 165)).frozen? ⟨w.heap.size + 1 + 1, 1, none⟩ = false := kf _ _ (two _ _ _) u5 uf1
  have xn0 : ((w3.alloc (.cells #[.int .u64 bh, .int .u64 bl] 165)).alloc (.cells #[.int .u64 yh, .int .u64 yl] 165)).cell? ⟨bn, 0, none⟩ = some (.int .u64 0) := kc _ _ (two _ _ _) un0
  have xn1 : ((w3.alloc (.cells #[.int .u64 bh, .int .u64 bl] 165)).alloc (.cells #[.int .u64 yh, .int .u64 yl] 165)).cell? ⟨bn, 1, none⟩ = some (.int .u64 al) := kc _ _ (two _ _ _) un1
  have xd0 : ((w3.alloc (.cells #[.int .u64 bh, .int .u64 bl] 165)).alloc (.cells #[.int .u64 yh, .int .u64 yl] 165)).cell? ⟨w3.heap.size, 0, none⟩ = some (.int .u64 bh) := newC3 w3 _ _ _ 0
  have xd1 : ((w3.alloc (.cells #[.int .u64 bh, .int .u64 bl] 165)).alloc (.cells #[.int .u64 yh, .int .u64 yl] 165)).cell? ⟨w3.heap.size, 1, none⟩ = some (.int .u64 bl) := newC3 w3 _ _ _ 1
  have hB5 : Below w.heap.size w ((w3.alloc (.cells #[.int .u64 bh, .int .u64 bl] 165)).alloc (.cells #[.int .u64 yh, .int .u64 yl] 165)) := beyond hB4 (two _ _ _)
  clear u4 u5 uf0 uf1 un0 un1 hB4
  generalize ((w3.alloc (.cells #[.int .u64 bh, .int .u64 bl] 165)).alloc (.cells #[.int .u64 yh, .int .u64 yl] 165)) = W3 at *
  generalize w3.heap.size = bd at *
  have y4 : ∀ O, (W3.alloc O).cell? ⟨w.heap.size + 1 + 1, 0, none⟩ = some (.int .i64 0) := fun O => kc _ _ (single _ _) x4
  have y5 : ∀ O, (W3.alloc O).cell? ⟨w.heap.size + 1 + 1, 1, none⟩ = some (.int .i64 0) := fun O => kc _ _ (single _ _) x5
  have yn0 : ∀ O, (W3.alloc O).cell? ⟨bn, 0, none⟩ = some (.int .u64 0) := fun O => kc _ _ (single _ _) xn0
  have yn1 : ∀ O, (W3.alloc O).cell? ⟨bn, 1, none⟩ = some (.int .u64 al) := fun O => kc _ _ (single _ _) xn1
  have yf0 : ∀ O, (W3.alloc O).frozen? ⟨w.heap.size + 1 + 1, 0, none⟩ = false := fun O => kf _ _ (single _ _) x4 xf0
  have yf1 : ∀ O, (W3.alloc O).frozen? ⟨w.heap.size + 1 + 1, 1, none⟩ = false := fun O => kf _ _ (single _ _) x5 xf1
  have l3 : w.heap.size + 1 + 1 < W3.heap.size := World.block_lt_of_cell? _ _ x4
  have l4 : bn < W3.heap.size := World.block_lt_of_cell? _ _ xn0
  have m1 : ¬ W3.heap.size = w.heap.size + 1 + 1 := by omega
  have m2 : ¬ w.heap.size + 1 + 1 = W3.heap.size := by omega
  have m3 : ¬ W3.heap.size = bn := by omega
  have m4 : ¬ bn = W3.heap.size := by omega
  have HB6 := hideR (show ∀ O, Below w.heap.size w (W3.alloc O) from fun O => beyond hB5 (single _ _))
  have HB5 := hideR hB5
  clear l1 l3 l4 hB5
  go_wp2_with fail
  refine bodyPost_ret (v := trip (0, 0, 20)) (by simp [results, Tryz.results133, go_sem, *]) rfl ⟨rfl, ?_⟩
  first | exact set2 HB5.out (by omega) _ _ | exact set2 (HB6.out _) (by omega) _ _ | exact HB5.out | (refine set2 (Below.setCell (HB6.out _) ?_ _) (by omega) _ _; have := (HB6.out default).size; simp at this; omega) | trace_state
set_option maxRecDepth 100000 in
set_option maxHeartbeats 8000000 in
theorem xheld_l_true_f3 (ph pl qh ql gh gl al bh bl xh xl yh yl : Int) (w : World) (hq : ¬ ql = 0) (e2 : ¬ 9223372036854775808 < al) (hc : ¬ bh = 0)
    (HC : Hid (∀ w, Calls Tryz.prog 110 #[.agg #[.int .u64 ph, .int .u64 pl], .agg #[.int .u64 qh, .int .u64 ql]] w fun e w' => e = .returned (.agg #[.int .u64 gh, .int .u64 gl]) ∧ Below w.heap.size w w'))
    (HD1 : Hid (∀ w, Calls Tryz.prog 149 #[.agg #[.int .u64 ph, .int .u64 pl], .agg #[.int .u64 gh, .int .u64 gl]] w fun e w' => e = .returned (.tuple #[.agg #[.int .u64 0, .int .u64 al], .agg #[.int .u64 xh, .int .u64 xl]]) ∧ Below w.heap.size w w'))
    (HD2 : Hid (∀ w, Calls Tryz.prog 149 #[.agg #[.int .u64 qh, .int .u64 ql], .agg #[.int .u64 gh, .int .u64 gl]] w fun e w' => e = .returned (.tuple #[.agg #[.int .u64 bh, .int .u64 bl], .agg #[.int .u64 yh, .int .u64 yl]]) ∧ Below w.heap.size w w')) :
    Calls Tryz.prog 133 #[.bool true, .agg #[.int .u64 ph, .int .u64 pl], .agg #[.int .u64 qh, .int .u64 ql]] w fun e w' => e = .returned (trip (0, 0, 20)) ∧ Below w.heap.size w w' := by
  have n1 : ¬ w.heap.size = w.heap.size + 1 + 1 := by omega
  have n2 : ¬ w.heap.size + 1 + 1 = w.heap.size := by omega
  go_enter Tryz.func133, Tryz.ntmps133
  go_wp2_with fail
  refine (HC.out _).mono ?_
  rintro e w1 ⟨rfl, hb⟩
  have s0 := kc ⟨w.heap.size, 0, none⟩ (.int .u64 ph) hb (by first | assumption | simp [go_sem, *])
  have s1 := kc ⟨w.heap.size, 1, none⟩ (.int .u64 pl) hb (by first | assumption | simp [go_sem, *])
  have s2 := kc ⟨w.heap.size + 1, 0, none⟩ (.int .u64 qh) hb (by first | assumption | simp [go_sem, *])
  have s3 := kc ⟨w.heap.size + 1, 1, none⟩ (.int .u64 ql) hb (by first | assumption | simp [go_sem, *])
  have s4 := kc ⟨w.heap.size + 1 + 1, 0, none⟩ (.int .i64 0) hb (by first | assumption | simp [go_sem, *])
  have s5 := kc ⟨w.heap.size + 1 + 1, 1, none⟩ (.int .i64 0) hb (by first | assumption | simp [go_sem, *])
  have sf0 := kf ⟨w.heap.size + 1 + 1, 0, none⟩ (.int .i64 0) hb (by first | assumption | simp [go_sem, *]) (by first | assumption | simp [go_sem, *])
  have sf1 := kf ⟨w.heap.size + 1 + 1, 1, none⟩ (.int .i64 0) hb (by first | assumption | simp [go_sem, *]) (by first | assumption | simp [go_sem, *])
  have hB1 : Below w.heap.size w w1 := beyond (three w _ _ _) hb
  clear hb
  have l1 : w.heap.size + 1 + 1 < w1.heap.size := World.block_lt_of_cell? _ _ s4
  go_upto_region 4 with (fail)
  have t0 : (w1.alloc (.cells #[.int .u64 gh, .int .u64 gl] 165)).cell? ⟨w.heap.size, 0, none⟩ = some (.int .u64 ph) := kc _ _ (single _ _) s0
  have t1 : (w1.alloc (.cells #[.int .u64 gh, .int .u64 gl] 165)).cell? ⟨w.heap.size, 1, none⟩ = some (.int .u64 pl) := kc _ _ (single _ _) s1
  have t2 : (w1.alloc (.cells #[.int .u64 gh, .int .u64 gl] 165)).cell? ⟨w.heap.size + 1, 0, none⟩ = some (.int .u64 qh) := kc _ _ (single _ _) s2
  have t3 : (w1.alloc (.cells #[.int .u64 gh, .int .u64 gl] 165)).cell? ⟨w.heap.size + 1, 1, none⟩ = some (.int .u64 ql) := kc _ _ (single _ _) s3
  have t4 : (w1.alloc (.cells #[.int .u64 gh, .int .u64 gl] 165)).cell? ⟨w.heap.size + 1 + 1, 0, none⟩ = some (.int .i64 0) := kc _ _ (single _ _) s4
  have t5 : (w1.alloc (.cells #[.int .u64 gh, .int .u64 gl] 165)).cell? ⟨w.heap.size + 1 + 1, 1, none⟩ = some (.int .i64 0) := kc _ _ (single _ _) s5
  have tf0 : (w1.alloc (.cells #[.int .u64 gh, .int .u64 gl] 165)).frozen? ⟨w.heap.size + 1 + 1, 0, none⟩ = false := kf _ _ (single _ _) s4 sf0
  have tf1 : (w1.alloc (.cells #[.int .u64 gh, .int .u64 gl] 165)).frozen? ⟨w.heap.size + 1 + 1, 1, none⟩ = false := kf _ _ (single _ _) s5 sf1
  have tg0 : (w1.alloc (.cells #[.int .u64 gh, .int .u64 gl] 165)).cell? ⟨w1.heap.size, 0, none⟩ = some (.int .u64 gh) := new_cell w1 _ _ 0
  have tg1 : (w1.alloc (.cells #[.int .u64 gh, .int .u64 gl] 165)).cell? ⟨w1.heap.size, 1, none⟩ = some (.int .u64 gl) := new_cell w1 _ _ 1
  have hBG : Below w.heap.size w (w1.alloc (.cells #[.int .u64 gh, .int .u64 gl] 165)) := beyond hB1 (single _ _)
  clear s0 s1 s2 s3 s4 s5 sf0 sf1 hB1 HC
  generalize (w1.alloc (.cells #[.int .u64 gh, .int .u64 gl] 165)) = W1 at *
  generalize w1.heap.size = bg at *
  go_wp2_with fail
  refine (HD1.out _).mono ?_
  rintro e w2 ⟨rfl, hb⟩
  have u0 := kc _ _ hb t0
  have u1 := kc _ _ hb t1
  have u2 := kc _ _ hb t2
  have u3 := kc _ _ hb t3
  have u4 := kc _ _ hb t4
  have u5 := kc _ _ hb t5
  have uf0 := kf _ _ hb t4 tf0
  have uf1 := kf _ _ hb t5 tf1
  have ug0 := kc _ _ hb tg0
  have ug1 := kc _ _ hb tg1
  have hB2 : Below w.heap.size w w2 := beyond hBG hb
  clear hb t0 t1 t2 t3 t4 t5 tf0 tf1 tg0 tg1 hBG HD1
  go_upto_region 5 with (fail)
  have v0 : ((w2.alloc (.cells #[.int .u64 0, .int .u64 al] 165)).alloc (.cells #[.int .u64 xh, .int .u64 xl] 165)).cell? ⟨w.heap.size, 0, none⟩ = some (.int .u64 ph) := kc _ _ (two _ _ _) u0
  have v1 : ((w2.alloc (.cells #[.int .u64 0, .int .u64 al] 165)).alloc (.cells #[.int .u64 xh, .int .u64 xl] 165)).cell? ⟨w.heap.size, 1, none⟩ = some (.int .u64 pl) := kc _ _ (two _ _ _) u1
  have v2 : ((w2.alloc (.cells #[.int .u64 0, .int .u64 al] 165)).alloc (.cells #[.int .u64 xh, .int .u64 xl] 165)).cell? ⟨w.heap.size + 1, 0, none⟩ = some (.int .u64 qh) := kc _ _ (two _ _ _) u2
  have v3 : ((w2.alloc (.cells #[.int .u64 0, .int .u64 al] 165)).alloc (.cells #[.int .u64 xh, .int .u64 xl] 165)).cell? ⟨w.heap.size + 1, 1, none⟩ = some (.int .u64 ql) := kc _ _ (two _ _ _) u3
  have v4 : ((w2.alloc (.cells #[.int .u64 0, .int .u64 al] 165)).alloc (.cells #[.int .u64 xh, .int .u64 xl] 165)).cell? ⟨w.heap.size + 1 + 1, 0, none⟩ = some (.int .i64 0) := kc _ _ (two _ _ _) u4
  have v5 : ((w2.alloc (.cells #[.int .u64 0, .int .u64 al] 165)).alloc (.cells #[.int .u64 xh, .int .u64 xl] 165)).cell? ⟨w.heap.size + 1 + 1, 1, none⟩ = some (.int .i64 0) := kc _ _ (two _ _ _) u5
  have vf0 : ((w2.alloc (.cells #[.int .u64 0, .int .u64 al] 165)).alloc (.cells #[.int .u64 xh, .int .u64 xl] 165)).frozen? ⟨w.heap.size + 1 + 1, 0, none⟩ = false := kf _ _ (two _ _ _) u4 uf0
  have vf1 : ((w2.alloc (.cells #[.int .u64 0, .int .u64 al] 165)).alloc (.cells #[.int .u64 xh, .int .u64 xl] 165)).frozen? ⟨w.heap.size + 1 + 1, 1, none⟩ = false := kf _ _ (two _ _ _) u5 uf1
  have vg0 : ((w2.alloc (.cells #[.int .u64 0, .int .u64 al] 165)).alloc (.cells #[.int .u64 xh, .int .u64 xl] 165)).cell? ⟨bg, 0, none⟩ = some (.int .u64 gh) := kc _ _ (two _ _ _) ug0
  have vg1 : ((w2.alloc (.cells #[.int .u64 0, .int .u64 al] 165)).alloc (.cells #[.int .u64 xh, .int .u64 xl] 165)).cell? ⟨bg, 1, none⟩ = some (.int .u64 gl) := kc _ _ (two _ _ _) ug1
  have vn0 : ((w2.alloc (.cells #[.int .u64 0, .int .u64 al] 165)).alloc (.cells #[.int .u64 xh, .int .u64 xl] 165)).cell? ⟨w2.heap.size, 0, none⟩ = some (.int .u64 0) := newC3 w2 _ _ _ 0
  have vn1 : ((w2.alloc (.cells #[.int .u64 0, .int .u64 al] 165)).alloc (.cells #[.int .u64 xh, .int .u64 xl] 165)).cell? ⟨w2.heap.size, 1, none⟩ = some (.int .u64 al) := newC3 w2 _ _ _ 1
  have hB3 : Below w.heap.size w ((w2.alloc (.cells #[.int .u64 0, .int .u64 al] 165)).alloc (.cells #[.int .u64 xh, .int .u64 xl] 165)) := beyond hB2 (two _ _ _)
  clear u0 u1 u2 u3 u4 u5 uf0 uf1 ug0 ug1 hB2
  generalize ((w2.alloc (.cells #[.int .u64 0, .int .u64 al] 165)).alloc (.cells #[.int .u64 xh, .int .u64 xl] 165)) = W2 at *
  generalize w2.heap.size = bn at *
  go_wp2_with fail
  refine (HD2.out _).mono ?_
  rintro e w3 ⟨rfl, hb⟩
  have u4 := kc _ _ hb v4
  have u5 := kc _ _ hb v5
  have uf0 := kf _ _ hb v4 vf0
  have uf1 := kf _ _ hb v5 vf1
  have un0 := kc _ _ hb vn0
  have un1 := kc _ _ hb vn1
  have hB4 : Below w.heap.size w w3 := beyond hB3 hb
  clear hb v0 v1 v2 v3 v4 v5 vf0 vf1 vg0 vg1 vn0 vn1 hB3 HD2 hq
  go_upto_region 6 with (fail)
  have x4 : ((w3.alloc (.cells #[.int .u64 bh, .int .u64 bl] 165)).alloc (.cells #[.int .u64 yh, .int .u64 yl] 165)).cell? ⟨w.heap.size + 1 + 1, 0, none⟩ = some (.int .i64 0) := kc _ _ (two _ _ _) u4
  have x5 : ((w3.alloc (.cells #[.int .u64 bh, .int .u64 bl] 165)).alloc (.cells #[.int .u64 yh, .int .u64 yl] 165)).cell? ⟨w.heap.size + 1 + 1, 1, none⟩ = some (.int .i64 0) := kc _ _ (two _ _ _) u5
  have xf0 : ((w3.alloc (.cells #[.int .u64 bh, .int .u64 bl] 165)).alloc (.cells #[.int .u64 yh, .int .u64 yl] 165)).frozen? ⟨w.heap.size + 1 + 1, 0, none⟩ = false := kf _ _ (two _ _ _) u4 uf0
  have xf1 : ((w3.alloc (.cells #[.int .u64 bh, .int .u64 bl] 165)).alloc (.cells #[.int .u64 yh, .int .u64 yl] 165)).frozen? ⟨w.heap.size + 1 + 1, 1, none⟩ = false := kf _ _ (two _ _ _) u5 uf1
  have xn0 : ((w3.alloc (.cells #[.int .u64 bh, .int .u64 bl] 165)).alloc (.cells #[.int .u64 yh, .int .u64 yl] 165)).cell? ⟨bn, 0, none⟩ = some (.int .u64 0) := kc _ _ (two _ _ _) un0
  have xn1 : ((w3.alloc (.cells #[.int .u64 bh, .int .u64 bl] 165)).alloc (.cells #[.int .u64 yh, .int .u64 yl] 165)).cell? ⟨bn, 1, none⟩ = some (.int .u64 al) := kc _ _ (two _ _ _) un1
  have xd0 : ((w3.alloc (.cells #[.int .u64 bh, .int .u64 bl] 165)).alloc (.cells #[.int .u64 yh, .int .u64 yl] 165)).cell? ⟨w3.heap.size, 0, none⟩ = some (.int .u64 bh) := newC3 w3 _ _ _ 0
  have xd1 : ((w3.alloc (.cells #[.int .u64 bh, .int .u64 bl] 165)).alloc (.cells #[.int .u64 yh, .int .u64 yl] 165)).cell? ⟨w3.heap.size, 1, none⟩ = some (.int .u64 bl) := newC3 w3 _ _ _ 1
  have hB5 : Below w.heap.size w ((w3.alloc (.cells #[.int .u64 bh, .int .u64 bl] 165)).alloc (.cells #[.int .u64 yh, .int .u64 yl] 165)) := beyond hB4 (two _ _ _)
  clear u4 u5 uf0 uf1 un0 un1 hB4
  generalize ((w3.alloc (.cells #[.int .u64 bh, .int .u64 bl] 165)).alloc (.cells #[.int .u64 yh, .int .u64 yl] 165)) = W3 at *
  generalize w3.heap.size = bd at *
  have y4 : ∀ O, (W3.alloc O).cell? ⟨w.heap.size + 1 + 1, 0, none⟩ = some (.int .i64 0) := fun O => kc _ _ (single _ _) x4
  have y5 : ∀ O, (W3.alloc O).cell? ⟨w.heap.size + 1 + 1, 1, none⟩ = some (.int .i64 0) := fun O => kc _ _ (single _ _) x5
  have yn0 : ∀ O, (W3.alloc O).cell? ⟨bn, 0, none⟩ = some (.int .u64 0) := fun O => kc _ _ (single _ _) xn0
  have yn1 : ∀ O, (W3.alloc O).cell? ⟨bn, 1, none⟩ = some (.int .u64 al) := fun O => kc _ _ (single _ _) xn1
  have yf0 : ∀ O, (W3.alloc O).frozen? ⟨w.heap.size + 1 + 1, 0, none⟩ = false := fun O => kf _ _ (single _ _) x4 xf0
  have yf1 : ∀ O, (W3.alloc O).frozen? ⟨w.heap.size + 1 + 1, 1, none⟩ = false := fun O => kf _ _ (single _ _) x5 xf1
  have l3 : w.heap.size + 1 + 1 < W3.heap.size := World.block_lt_of_cell? _ _ x4
  have l4 : bn < W3.heap.size := World.block_lt_of_cell? _ _ xn0
  have m1 : ¬ W3.heap.size = w.heap.size + 1 + 1 := by omega
  have m2 : ¬ w.heap.size + 1 + 1 = W3.heap.size := by omega
  have m3 : ¬ W3.heap.size = bn := by omega
  have m4 : ¬ bn = W3.heap.size := by omega
  have HB6 := hideR (show ∀ O, Below w.heap.size w (W3.alloc O) from fun O => beyond hB5 (single _ _))
  have HB5 := hideR hB5
  clear l1 l3 l4 hB5
  go_wp2_with fail
  refine bodyPost_ret (v := trip (0, 0, 20)) (by simp [results, Tryz.results133, go_sem, *]) rfl ⟨rfl, ?_⟩
  first | exact set2 HB5.out (by omega) _ _ | exact set2 (HB6.out _) (by omega) _ _ | exact HB5.out | (refine set2 (Below.setCell (HB6.out _) ?_ _) (by omega) _ _; have := (HB6.out default).size; simp at this; omega) | trace_state
set_option maxRecDepth 100000 in
set_option maxHeartbeats 8000000 in
theorem xheld_l_true_f4 (ph pl qh ql gh gl al bl xh xl yh yl : Int) (w : World) (hq : ¬ ql = 0) (e2 : ¬ 9223372036854775808 < al) (hc : 9223372036854775807 < bl)
    (HC : Hid (∀ w, Calls Tryz.prog 110 #[.agg #[.int .u64 ph, .int .u64 pl], .agg #[.int .u64 qh, .int .u64 ql]] w fun e w' => e = .returned (.agg #[.int .u64 gh, .int .u64 gl]) ∧ Below w.heap.size w w'))
    (HD1 : Hid (∀ w, Calls Tryz.prog 149 #[.agg #[.int .u64 ph, .int .u64 pl], .agg #[.int .u64 gh, .int .u64 gl]] w fun e w' => e = .returned (.tuple #[.agg #[.int .u64 0, .int .u64 al], .agg #[.int .u64 xh, .int .u64 xl]]) ∧ Below w.heap.size w w'))
    (HD2 : Hid (∀ w, Calls Tryz.prog 149 #[.agg #[.int .u64 qh, .int .u64 ql], .agg #[.int .u64 gh, .int .u64 gl]] w fun e w' => e = .returned (.tuple #[.agg #[.int .u64 0, .int .u64 bl], .agg #[.int .u64 yh, .int .u64 yl]]) ∧ Below w.heap.size w w')) :
    Calls Tryz.prog 133 #[.bool true, .agg #[.int .u64 ph, .int .u64 pl], .agg #[.int .u64 qh, .int .u64 ql]] w fun e w' => e = .returned (trip (0, 0, 20)) ∧ Below w.heap.size w w' := by
  have n1 : ¬ w.heap.size = w.heap.size + 1 + 1 := by omega
  have n2 : ¬ w.heap.size + 1 + 1 = w.heap.size := by omega
  go_enter Tryz.func133, Tryz.ntmps133
  go_wp2_with fail
  refine (HC.out _).mono ?_
  rintro e w1 ⟨rfl, hb⟩
  have s0 := kc ⟨w.heap.size, 0, none⟩ (.int .u64 ph) hb (by first | assumption | simp [go_sem, *])
  have s1 := kc ⟨w.heap.size, 1, none⟩ (.int .u64 pl) hb (by first | assumption | simp [go_sem, *])
  have s2 := kc ⟨w.heap.size + 1, 0, none⟩ (.int .u64 qh) hb (by first | assumption | simp [go_sem, *])
  have s3 := kc ⟨w.heap.size + 1, 1, none⟩ (.int .u64 ql) hb (by first | assumption | simp [go_sem, *])
  have s4 := kc ⟨w.heap.size + 1 + 1, 0, none⟩ (.int .i64 0) hb (by first | assumption | simp [go_sem, *])
  have s5 := kc ⟨w.heap.size + 1 + 1, 1, none⟩ (.int .i64 0) hb (by first | assumption | simp [go_sem, *])
  have sf0 := kf ⟨w.heap.size + 1 + 1, 0, none⟩ (.int .i64 0) hb (by first | assumption | simp [go_sem, *]) (by first | assumption | simp [go_sem, *])
  have sf1 := kf ⟨w.heap.size + 1 + 1, 1, none⟩ (.int .i64 0) hb (by first | assumption | simp [go_sem, *]) (by first | assumption | simp [go_sem, *])
  have hB1 : Below w.heap.size w w1 := beyond (three w _ _ _) hb
  clear hb
  have l1 : w.heap.size + 1 + 1 < w1.heap.size := World.block_lt_of_cell? _ _ s4
  go_upto_region 4 with (fail)
  have t0 : (w1.alloc (.cells #[.int .u64 gh, .int .u64 gl] 165)).cell? ⟨w.heap.size, 0, none⟩ = some (.int .u64 ph) := kc _ _ (single _ _) s0
  have t1 : (w1.alloc (.cells #[.int .u64 gh, .int .u64 gl] 165)).cell? ⟨w.heap.size, 1, none⟩ = some (.int .u64 pl) := kc _ _ (single _ _) s1
  have t2 : (w1.alloc (.cells #[.int .u64 gh, .int .u64 gl] 165)).cell? ⟨w.heap.size + 1, 0, none⟩ = some (.int .u64 qh) := kc _ _ (single _ _) s2
  have t3 : (w1.alloc (.cells #[.int .u64 gh, .int .u64 gl] 165)).cell? ⟨w.heap.size + 1, 1, none⟩ = some (.int .u64 ql) := kc _ _ (single _ _) s3
  have t4 : (w1.alloc (.cells #[.int .u64 gh, .int .u64 gl] 165)).cell? ⟨w.heap.size + 1 + 1, 0, none⟩ = some (.int .i64 0) := kc _ _ (single _ _) s4
  have t5 : (w1.alloc (.cells #[.int .u64 gh, .int .u64 gl] 165)).cell? ⟨w.heap.size + 1 + 1, 1, none⟩ = some (.int .i64 0) := kc _ _ (single _ _) s5
  have tf0 : (w1.alloc (.cells #[.int .u64 gh, .int .u64 gl] 165)).frozen? ⟨w.heap.size + 1 + 1, 0, none⟩ = false := kf _ _ (single _ _) s4 sf0
  have tf1 : (w1.alloc (.cells #[.int .u64 gh, .int .u64 gl] 165)).frozen? ⟨w.heap.size + 1 + 1, 1, none⟩ = false := kf _ _ (single _ _) s5 sf1
  have tg0 : (w1.alloc (.cells #[.int .u64 gh, .int .u64 gl] 165)).cell? ⟨w1.heap.size, 0, none⟩ = some (.int .u64 gh) := new_cell w1 _ _ 0
  have tg1 : (w1.alloc (.cells #[.int .u64 gh, .int .u64 gl] 165)).cell? ⟨w1.heap.size, 1, none⟩ = some (.int .u64 gl) := new_cell w1 _ _ 1
  have hBG : Below w.heap.size w (w1.alloc (.cells #[.int .u64 gh, .int .u64 gl] 165)) := beyond hB1 (single _ _)
  clear s0 s1 s2 s3 s4 s5 sf0 sf1 hB1 HC
  generalize (w1.alloc (.cells #[.int .u64 gh, .int .u64 gl] 165)) = W1 at *
  generalize w1.heap.size = bg at *
  go_wp2_with fail
  refine (HD1.out _).mono ?_
  rintro e w2 ⟨rfl, hb⟩
  have u0 := kc _ _ hb t0
  have u1 := kc _ _ hb t1
  have u2 := kc _ _ hb t2
  have u3 := kc _ _ hb t3
  have u4 := kc _ _ hb t4
  have u5 := kc _ _ hb t5
  have uf0 := kf _ _ hb t4 tf0
  have uf1 := kf _ _ hb t5 tf1
  have ug0 := kc _ _ hb tg0
  have ug1 := kc _ _ hb tg1
  have hB2 : Below w.heap.size w w2 := beyond hBG hb
  clear hb t0 t1 t2 t3 t4 t5 tf0 tf1 tg0 tg1 hBG HD1
  go_upto_region 5 with (fail)
  have v0 : ((w2.alloc (.cells #[.int .u64 0, .int .u64 al] 165)).alloc (.cells #[.int .u64 xh, .int .u64 xl] 165)).cell? ⟨w.heap.size, 0, none⟩ = some (.int .u64 ph) := kc _ _ (two _ _ _) u0
  have v1 : ((w2.alloc (.cells #[.int .u64 0, .int .u64 al] 165)).alloc (.cells #[.int .u64 xh, .int .u64 xl] 165)).cell? ⟨w.heap.size, 1, none⟩ = some (.int .u64 pl) := kc _ _ (two _ _ _) u1
  have v2 : ((w2.alloc (.cells #[.int .u64 0, .int .u64 al] 165)).alloc (.cells #[.int .u64 xh, .int .u64 xl] 165)).cell? ⟨w.heap.size + 1, 0, none⟩ = some (.int .u64 qh) := kc _ _ (two _ _ _) u2
  have v3 : ((w2.alloc (.cells #[.int .u64 0, .int .u64 al] 165)).alloc (.cells #[.int .u64 xh, .int .u64 xl] 165)).cell? ⟨w.heap.size + 1, 1, none⟩ = some (.int .u64 ql) := kc _ _ (two _ _ _) u3
  have v4 : ((w2.alloc (.cells #[.int .u64 0, .int .u64 al] 165)).alloc (.cells #[.int .u64 xh, .int .u64 xl] 165)).cell? ⟨w.heap.size + 1 + 1, 0, none⟩ = some (.int .i64 0) := kc _ _ (two _ _ _) u4
  have v5 : ((w2.alloc (.cells #[.int .u64 0, .int .u64 al] 165)).alloc (.cells #[.int .u64 xh, .int .u64 xl] 165)).cell? ⟨w.heap.size + 1 + 1, 1, none⟩ = some (.int .i64 0) := kc _ _ (two _ _ _) u5
  have vf0 : ((w2.alloc (.cells #[.int .u64 0, .int .u64 al] 165)).alloc (.cells #[.int .u64 xh, .int .u64 xl] 165)).frozen? ⟨w.heap.size + 1 + 1, 0, none⟩ = false := kf _ _ (two _ _ _) u4 uf0
  have vf1 : ((w2.alloc (.cells #[.int .u64 0, .int .u64 al] 165)).alloc (.cells #[.int .u64 xh, .int .u64 xl] 165)).frozen? ⟨w.heap.size + 1 + 1, 1, none⟩ = false := kf _ _ (two _ _ _) u5 uf1
  have vg0 : ((w2.alloc (.cells #[.int .u64 0, .int .u64 al] 165)).alloc (.cells #[.int .u64 xh, .int .u64 xl] 165)).cell? ⟨bg, 0, none⟩ = some (.int .u64 gh) := kc _ _ (two _ _ _) ug0
  have vg1 : ((w2.alloc (.cells #[.int .u64 0, .int .u64 al] 165)).alloc (.cells #[.int .u64 xh, .int .u64 xl] 165)).cell? ⟨bg, 1, none⟩ = some (.int .u64 gl) := kc _ _ (two _ _ _) ug1
  have vn0 : ((w2.alloc (.cells #[.int .u64 0, .int .u64 al] 165)).alloc (.cells #[.int .u64 xh, .int .u64 xl] 165)).cell? ⟨w2.heap.size, 0, none⟩ = some (.int .u64 0) := newC3 w2 _ _ _ 0
  have vn1 : ((w2.alloc (.cells #[.int .u64 0, .int .u64 al] 165)).alloc (.cells #[.int .u64 xh, .int .u64 xl] 165)).cell? ⟨w2.heap.size, 1, none⟩ = some (.int .u64 al) := newC3 w2 _ _ _ 1
  have hB3 : Below w.heap.size w ((w2.alloc (.cells #[.int .u64 0, .int .u64 al] 165)).alloc (.cells #[.int .u64 xh, .int .u64 xl] 165)) := beyond hB2 (two _ _ _)
  clear u0 u1 u2 u3 u4 u5 uf0 uf1 ug0 ug1 hB2
  generalize ((w2.alloc (.cells #[.int .u64 0, .int .u64 al] 165)).alloc (.cells #[.int .u64 xh, .int .u64 xl] 165)) = W2 at *
  generalize w2.heap.size = bn at *
  go_wp2_with fail
  refine (HD2.out _).mono ?_
  rintro e w3 ⟨rfl, hb⟩
  have u4 := kc _ _ hb v4
  have u5 := kc _ _ hb v5
  have uf0 := kf _ _ hb v4 vf0
  have uf1 := kf _ _ hb v5 vf1
  have un0 := kc _ _ hb vn0
  have un1 := kc _ _ hb vn1
  have hB4 : Below w.heap.size w w3 := beyond hB3 hb
  clear hb v0 v1 v2 v3 v4 v5 vf0 vf1 vg0 vg1 vn0 vn1 hB3 HD2 hq
  go_upto_region 6 with (fail)
  have x4 : ((w3.alloc (.cells #[.int .u64 0, .int .u64 bl] 165)).alloc (.cells #[.int .u64 yh, .int .u64 yl] 165)).cell? ⟨w.heap.size + 1 + 1, 0, none⟩ = some (.int .i64 0) := kc _ _ (two _ _ _) u4
  have x5 : ((w3.alloc (.cells #[.int .u64 0, .int .u64 bl] 165)).alloc (.cells #[.int .u64 yh, .int .u64 yl] 165)).cell? ⟨w.heap.size + 1 + 1, 1, none⟩ = some (.int .i64 0) := kc _ _ (two _ _ _) u5
  have xf0 : ((w3.alloc (.cells #[.int .u64 0, .int .u64 bl] 165)).alloc (.cells #[.int .u64 yh, .int .u64 yl] 165)).frozen? ⟨w.heap.size + 1 + 1, 0, none⟩ = false := kf _ _ (two _ _ _) u4 uf0
  have xf1 : ((w3.alloc (.cells #[.int .u64 0, .int .u64 bl] 165)).alloc (.cells #[.int .u64 yh, .int .u64 yl] 165)).frozen? ⟨w.heap.size + 1 + 1, 1, none⟩ = false := kf _ _ (two _ _ _) u5 uf1
  have xn0 : ((w3.alloc (.cells #[.int .u64 0, .int .u64 bl] 165)).alloc (.cells #[.int .u64 yh, .int .u64 yl] 165)).cell? ⟨bn, 0, none⟩ = some (.int .u64 0) := kc _ _ (two _ _ _) un0
  have xn1 : ((w3.alloc (.cells #[.int .u64 0, .int .u64 bl] 165)).alloc (.cells #[.int .u64 yh, .int .u64 yl] 165)).cell? ⟨bn, 1, none⟩ = some (.int .u64 al) := kc _ _ (two _ _ _) un1
  have xd0 : ((w3.alloc (.cells #[.int .u64 0, .int .u64 bl] 165)).alloc (.cells #[.int .u64 yh, .int .u64 yl] 165)).cell? ⟨w3.heap.size, 0, none⟩ = some (.int .u64 0) := newC3 w3 _ _ _ 0
  have xd1 : ((w3.alloc (.cells #[.int .u64 0, .int .u64 bl] 165)).alloc (.cells #[.int .u64 yh, .int .u64 yl] 165)).cell? ⟨w3.heap.size, 1, none⟩ = some (.int .u64 bl) := newC3 w3 _ _ _ 1
  have hB5 : Below w.heap.size w ((w3.alloc (.cells #[.int .u64 0, .int .u64 bl] 165)).alloc (.cells #[.int .u64 yh, .int .u64 yl] 165)) := beyond hB4 (two _ _ _)
  clear u4 u5 uf0 uf1 un0 un1 hB4
  generalize ((w3.alloc (.cells #[.int .u64 0, .int .u64 bl] 165)).alloc (.cells #[.int .u64 yh, .int .u64 yl] 165)) = W3 at *
  generalize w3.heap.size = bd at *
  have y4 : ∀ O, (W3.alloc O).cell? ⟨w.heap.size + 1 + 1, 0, none⟩ = some (.int .i64 0) := fun O => kc _ _ (single _ _) x4
  have y5 : ∀ O, (W3.alloc O).cell? ⟨w.heap.size + 1 + 1, 1, none⟩ = some (.int .i64 0) := fun O => kc _ _ (single _ _) x5
  have yn0 : ∀ O, (W3.alloc O).cell? ⟨bn, 0, none⟩ = some (.int .u64 0) := fun O => kc _ _ (single _ _) xn0
  have yn1 : ∀ O, (W3.alloc O).cell? ⟨bn, 1, none⟩ = some (.int .u64 al) := fun O => kc _ _ (single _ _) xn1
  have yf0 : ∀ O, (W3.alloc O).frozen? ⟨w.heap.size + 1 + 1, 0, none⟩ = false := fun O => kf _ _ (single _ _) x4 xf0
  have yf1 : ∀ O, (W3.alloc O).frozen? ⟨w.heap.size + 1 + 1, 1, none⟩ = false := fun O => kf _ _ (single _ _) x5 xf1
  have l3 : w.heap.size + 1 + 1 < W3.heap.size := World.block_lt_of_cell? _ _ x4
  have l4 : bn < W3.heap.size := World.block_lt_of_cell? _ _ xn0
  have m1 : ¬ W3.heap.size = w.heap.size + 1 + 1 := by omega
  have m2 : ¬ w.heap.size + 1 + 1 = W3.heap.size := by omega
  have m3 : ¬ W3.heap.size = bn := by omega
  have m4 : ¬ bn = W3.heap.size := by omega
  have HB6 := hideR (show ∀ O, Below w.heap.size w (W3.alloc O) from fun O => beyond hB5 (single _ _))
  have HB5 := hideR hB5
  clear l1 l3 l4 hB5
  go_wp2_with fail
  refine bodyPost_ret (v := trip (0, 0, 20)) (by simp [results, Tryz.results133, go_sem, *]) rfl ⟨rfl, ?_⟩
  first | exact set2 HB5.out (by omega) _ _ | exact set2 (HB6.out _) (by omega) _ _ | exact HB5.out | (refine set2 (Below.setCell (HB6.out _) ?_ _) (by omega) _ _; have := (HB6.out default).size; simp at this; omega) | trace_state
set_option maxRecDepth 100000 in
set_option maxHeartbeats 8000000 in
theorem xheld_l_true_ok (ph pl qh ql gh gl al bl xh xl yh yl : Int) (w : World) (hq : ¬ ql = 0) (nn : Int) (e2 : ¬ 9223372036854775808 < al) (hc : ¬ 9223372036854775807 < bl) (z1 : IntKind.i64.wrap bl = bl) (z2 : IntKind.i64.wrap (IntKind.u64.wrap (-al)) = nn)
    (HC : Hid (∀ w, Calls Tryz.prog 110 #[.agg #[.int .u64 ph, .int .u64 pl], .agg #[.int .u64 qh, .int .u64 ql]] w fun e w' => e = .returned (.agg #[.int .u64 gh, .int .u64 gl]) ∧ Below w.heap.size w w'))
    (HD1 : Hid (∀ w, Calls Tryz.prog 149 #[.agg #[.int .u64 ph, .int .u64 pl], .agg #[.int .u64 gh, .int .u64 gl]] w fun e w' => e = .returned (.tuple #[.agg #[.int .u64 0, .int .u64 al], .agg #[.int .u64 xh, .int .u64 xl]]) ∧ Below w.heap.size w w'))
    (HD2 : Hid (∀ w, Calls Tryz.prog 149 #[.agg #[.int .u64 qh, .int .u64 ql], .agg #[.int .u64 gh, .int .u64 gl]] w fun e w' => e = .returned (.tuple #[.agg #[.int .u64 0, .int .u64 bl], .agg #[.int .u64 yh, .int .u64 yl]]) ∧ Below w.heap.size w w')) :
    Calls Tryz.prog 133 #[.bool true, .agg #[.int .u64 ph, .int .u64 pl], .agg #[.int .u64 qh, .int .u64 ql]] w fun e w' => e = .returned (trip (nn, bl, 0)) ∧ Below w.heap.size w w' := by
  have n1 : ¬ w.heap.size = w.heap.size + 1 + 1 := by omega
  have n2 : ¬ w.heap.size + 1 + 1 = w.heap.size := by omega
  go_enter Tryz.func133, Tryz.ntmps133
  go_wp2_with fail
  refine (HC.out _).mono ?_
  rintro e w1 ⟨rfl, hb⟩
  have s0 := kc ⟨w.heap.size, 0, none⟩ (.int .u64 ph) hb (by first | assumption | simp [go_sem, *])
  have s1 := kc ⟨w.heap.size, 1, none⟩ (.int .u64 pl) hb (by first | assumption | simp [go_sem, *])
  have s2 := kc ⟨w.heap.size + 1, 0, none⟩ (.int .u64 qh) hb (by first | assumption | simp [go_sem, *])
  have s3 := kc ⟨w.heap.size + 1, 1, none⟩ (.int .u64 ql) hb (by first | assumption | simp [go_sem, *])
  have s4 := kc ⟨w.heap.size + 1 + 1, 0, none⟩ (.int .i64 0) hb (by first | assumption | simp [go_sem, *])
  have s5 := kc ⟨w.heap.size + 1 + 1, 1, none⟩ (.int .i64 0) hb (by first | assumption | simp [go_sem, *])
  have sf0 := kf ⟨w.heap.size + 1 + 1, 0, none⟩ (.int .i64 0) hb (by first | assumption | simp [go_sem, *]) (by first | assumption | simp [go_sem, *])
  have sf1 := kf ⟨w.heap.size + 1 + 1, 1, none⟩ (.int .i64 0) hb (by first | assumption | simp [go_sem, *]) (by first | assumption | simp [go_sem, *])
  have hB1 : Below w.heap.size w w1 := beyond (three w _ _ _) hb
  clear hb
  have l1 : w.heap.size + 1 + 1 < w1.heap.size := World.block_lt_of_cell? _ _ s4
  go_upto_region 4 with (fail)
  have t0 : (w1.alloc (.cells #[.int .u64 gh, .int .u64 gl] 165)).cell? ⟨w.heap.size, 0, none⟩ = some (.int .u64 ph) := kc _ _ (single _ _) s0
  have t1 : (w1.alloc (.cells #[.int .u64 gh, .int .u64 gl] 165)).cell? ⟨w.heap.size, 1, none⟩ = some (.int .u64 pl) := kc _ _ (single _ _) s1
  have t2 : (w1.alloc (.cells #[.int .u64 gh, .int .u64 gl] 165)).cell? ⟨w.heap.size + 1, 0, none⟩ = some (.int .u64 qh) := kc _ _ (single _ _) s2
  have t3 : (w1.alloc (.cells #[.int .u64 gh, .int .u64 gl] 165)).cell? ⟨w.heap.size + 1, 1, none⟩ = some (.int .u64 ql) := kc _ _ (single _ _) s3
  have t4 : (w1.alloc (.cells #[.int .u64 gh, .int .u64 gl] 165)).cell? ⟨w.heap.size + 1 + 1, 0, none⟩ = some (.int .i64 0) := kc _ _ (single _ _) s4
  have t5 : (w1.alloc (.cells #[.int .u64 gh, .int .u64 gl] 165)).cell? ⟨w.heap.size + 1 + 1, 1, none⟩ = some (.int .i64 0) := kc _ _ (single _ _) s5
  have tf0 : (w1.alloc (.cells #[.int .u64 gh, .int .u64 gl] 165)).frozen? ⟨w.heap.size + 1 + 1, 0, none⟩ = false := kf _ _ (single _ _) s4 sf0
  have tf1 : (w1.alloc (.cells #[.int .u64 gh, .int .u64 gl] 165)).frozen? ⟨w.heap.size + 1 + 1, 1, none⟩ = false := kf _ _ (single _ _) s5 sf1
  have tg0 : (w1.alloc (.cells #[.int .u64 gh, .int .u64 gl] 165)).cell? ⟨w1.heap.size, 0, none⟩ = some (.int .u64 gh) := new_cell w1 _ _ 0
  have tg1 : (w1.alloc (.cells #[.int .u64 gh, .int .u64 gl] 165)).cell? ⟨w1.heap.size, 1, none⟩ = some (.int .u64 gl) := new_cell w1 _ _ 1
  have hBG : Below w.heap.size w (w1.alloc (.cells #[.int .u64 gh, .int .u64 gl] 165)) := beyond hB1 (single _ _)
  clear s0 s1 s2 s3 s4 s5 sf0 sf1 hB1 HC
  generalize (w1.alloc (.cells #[.int .u64 gh, .int .u64 gl] 165)) = W1 at *
  generalize w1.heap.size = bg at *
  go_wp2_with fail
  refine (HD1.out _).mono ?_
  rintro e w2 ⟨rfl, hb⟩
  have u0 := kc _ _ hb t0
  have u1 := kc _ _ hb t1
  have u2 := kc _ _ hb t2
  have u3 := kc _ _ hb t3
  have u4 := kc _ _ hb t4
  have u5 := kc _ _ hb t5
  have uf0 := kf _ _ hb t4 tf0
  have uf1 := kf _ _ hb t5 tf1
  have ug0 := kc _ _ hb tg0
  have ug1 := kc _ _ hb tg1
  have hB2 : Below w.heap.size w w2 := beyond hBG hb
  clear hb t0 t1 t2 t3 t4 t5 tf0 tf1 tg0 tg1 hBG HD1
  go_upto_region 5 with (fail)
  have v0 : ((w2.alloc (.cells #[.int .u64 0, .int .u64 al] 165)).alloc (.cells #[.int .u64 xh, .int .u64 xl] 165)).cell? ⟨w.heap.size, 0, none⟩ = some (.int .u64 ph) := kc _ _ (two _ _ _) u0
  have v1 : ((w2.alloc (.cells #[.int .u64 0, .int .u64 al] 165)).alloc (.cells #[.int .u64 xh, .int .u64 xl] 165)).cell? ⟨w.heap.size, 1, none⟩ = some (.int .u64 pl) := kc _ _ (two _ _ _) u1
  have v2 : ((w2.alloc (.cells #[.int .u64 0, .int .u64 al] 165)).alloc (.cells #[.int .u64 xh, .int .u64 xl] 165)).cell? ⟨w.heap.size + 1, 0, none⟩ = some (.int .u64 qh) := kc _ _ (two _ _ _) u2
  have v3 : ((w2.alloc (.cells #[.int .u64 0, .int .u64 al] 165)).alloc (.cells #[.int .u64 xh, .int .u64 xl] 165)).cell? ⟨w.heap.size + 1, 1, none⟩ = some (.int .u64 ql) := kc _ _ (two _ _ _) u3
  have v4 : ((w2.alloc (.cells #[.int .u64 0, .int .u64 al] 165)).alloc (.cells #[.int .u64 xh, .int .u64 xl] 165)).cell? ⟨w.heap.size + 1 + 1, 0, none⟩ = some (.int .i64 0) := kc _ _ (two _ _ _) u4
  have v5 : ((w2.alloc (.cells #[.int .u64 0, .int .u64 al] 165)).alloc (.cells #[.int .u64 xh, .int .u64 xl] 165)).cell? ⟨w.heap.size + 1 + 1, 1, none⟩ = some (.int .i64 0) := kc _ _ (two _ _ _) u5
  have vf0 : ((w2.alloc (.cells #[.int .u64 0, .int .u64 al] 165)).alloc (.cells #[.int .u64 xh, .int .u64 xl] 165)).frozen? ⟨w.heap.size + 1 + 1, 0, none⟩ = false := kf _ _ (two _ _ _) u4 uf0
  have vf1 : ((w2.alloc (.cells #[.int .u64 0, .int .u64 al] 165)).alloc (.cells #[.int .u64 xh, .int .u64 xl] 165)).frozen? ⟨w.heap.size + 1 + 1, 1, none⟩ = false := kf _ _ (two _ _ _) u5 uf1
  have vg0 : ((w2.alloc (.cells #[.int .u64 0, .int .u64 al] 165)).alloc (.cells #[.int .u64 xh, .int .u64 xl] 165)).cell? ⟨bg, 0, none⟩ = some (.int .u64 gh) := kc _ _ (two _ _ _) ug0
  have vg1 : ((w2.alloc (.cells #[.int .u64 0, .int .u64 al] 165)).alloc (.cells #[.int .u64 xh, .int .u64 xl] 165)).cell? ⟨bg, 1, none⟩ = some (.int .u64 gl) := kc _ _ (two _ _ _) ug1
  have vn0 : ((w2.alloc (.cells #[.int .u64 0, .int .u64 al] 165)).alloc (.cells #[.int .u64 xh, .int .u64 xl] 165)).cell? ⟨w2.heap.size, 0, none⟩ = some (.int .u64 0) := newC3 w2 _ _ _ 0
  have vn1 : ((w2.alloc (.cells #[.int .u64 0, .int .u64 al] 165)).alloc (.cells #[.int .u64 xh, .int .u64 xl] 165)).cell? ⟨w2.heap.size, 1, none⟩ = some (.int .u64 al) := newC3 w2 _ _ _ 1
  have hB3 : Below w.heap.size w ((w2.alloc (.cells #[.int .u64 0, .int .u64 al] 165)).alloc (.cells #[.int .u64 xh, .int .u64 xl] 165)) := beyond hB2 (two _ _ _)
  clear u0 u1 u2 u3 u4 u5 uf0 uf1 ug0 ug1 hB2
  generalize ((w2.alloc (.cells #[.int .u64 0, .int .u64 al] 165)).alloc (.cells #[.int .u64 xh, .int .u64 xl] 165)) = W2 at *
  generalize w2.heap.size = bn at *
  go_wp2_with fail
  refine (HD2.out _).mono ?_
  rintro e w3 ⟨rfl, hb⟩
  have u4 := kc _ _ hb v4
  have u5 := kc _ _ hb v5
  have uf0 := kf _ _ hb v4 vf0
  have uf1 := kf _ _ hb v5 vf1
  have un0 := kc _ _ hb vn0
  have un1 := kc _ _ hb vn1
  have hB4 : Below w.heap.size w w3 := beyond hB3 hb
  clear hb v0 v1 v2 v3 v4 v5 vf0 vf1 vg0 vg1 vn0 vn1 hB3 HD2 hq
  go_upto_region 6 with (fail)
  have x4 : ((w3.alloc (.cells #[.int .u64 0, .int .u64 bl] 165)).alloc (.cells #[.int .u64 yh, .int .u64 yl] 165)).cell? ⟨w.heap.size + 1 + 1, 0, none⟩ = some (.int .i64 0) := kc _ _ (two _ _ _) u4
  have x5 : ((w3.alloc (.cells #[.int .u64 0, .int .u64 bl] 165)).alloc (.cells #[.int .u64 yh, .int .u64 yl] 165)).cell? ⟨w.heap.size + 1 + 1, 1, none⟩ = some (.int .i64 0) := kc _ _ (two _ _ _) u5
  have xf0 : ((w3.alloc (.cells #[.int .u64 0, .int .u64 bl] 165)).alloc (.cells #[.int .u64 yh, .int .u64 yl] 165)).frozen? ⟨w.heap.size + 1 + 1, 0, none⟩ = false := kf _ _ (two _ _ _) u4 uf0
  have xf1 : ((w3.alloc (.cells #[.int .u64 0, .int .u64 bl] 165)).alloc (.cells #[.int .u64 yh, .int .u64 yl] 165)).frozen? ⟨w.heap.size + 1 + 1, 1, none⟩ = false := kf _ _ (two _ _ _) u5 uf1
  have xn0 : ((w3.alloc (.cells #[.int .u64 0, .int .u64 bl] 165)).alloc (.cells #[.int .u64 yh, .int .u64 yl] 165)).cell? ⟨bn, 0, none⟩ = some (.int .u64 0) := kc _ _ (two _ _ _) un0
  have xn1 : ((w3.alloc (.cells #[.int .u64 0, .int .u64 bl] 165)).alloc (.cells #[.int .u64 yh, .int .u64 yl] 165)).cell? ⟨bn, 1, none⟩ = some (.int .u64 al) := kc _ _ (two _ _ _) un1
  have xd0 : ((w3.alloc (.cells #[.int .u64 0, .int .u64 bl] 165)).alloc (.cells #[.int .u64 yh, .int .u64 yl] 165)).cell? ⟨w3.heap.size, 0, none⟩ = some (.int .u64 0) := newC3 w3 _ _ _ 0
  have xd1 : ((w3.alloc (.cells #[.int .u64 0, .int .u64 bl] 165)).alloc (.cells #[.int .u64 yh, .int .u64 yl] 165)).cell? ⟨w3.heap.size, 1, none⟩ = some (.int .u64 bl) := newC3 w3 _ _ _ 1
  have hB5 : Below w.heap.size w ((w3.alloc (.cells #[.int .u64 0, .int .u64 bl] 165)).alloc (.cells #[.int .u64 yh, .int .u64 yl] 165)) := beyond hB4 (two _ _ _)
  clear u4 u5 uf0 uf1 un0 un1 hB4
  generalize ((w3.alloc (.cells #[.int .u64 0, .int .u64 bl] 165)).alloc (.cells #[.int .u64 yh, .int .u64 yl] 165)) = W3 at *
  generalize w3.heap.size = bd at *
  have y4 : ∀ O, (W3.alloc O).cell? ⟨w.heap.size + 1 + 1, 0, none⟩ = some (.int .i64 0) := fun O => kc _ _ (single _ _) x4
  have y5 : ∀ O, (W3.alloc O).cell? ⟨w.heap.size + 1 + 1, 1, none⟩ = some (.int .i64 0) := fun O => kc _ _ (single _ _) x5
  have yn0 : ∀ O, (W3.alloc O).cell? ⟨bn, 0, none⟩ = some (.int .u64 0) := fun O => kc _ _ (single _ _) xn0
  have yn1 : ∀ O, (W3.alloc O).cell? ⟨bn, 1, none⟩ = some (.int .u64 al) := fun O => kc _ _ (single _ _) xn1
  have yf0 : ∀ O, (W3.alloc O).frozen? ⟨w.heap.size + 1 + 1, 0, none⟩ = false := fun O => kf _ _ (single _ _) x4 xf0
  have yf1 : ∀ O, (W3.alloc O).frozen? ⟨w.heap.size + 1 + 1, 1, none⟩ = false := fun O => kf _ _ (single _ _) x5 xf1
  have l3 : w.heap.size + 1 + 1 < W3.heap.size := World.block_lt_of_cell? _ _ x4
  have l4 : bn < W3.heap.size := World.block_lt_of_cell? _ _ xn0
  have m1 : ¬ W3.heap.size = w.heap.size + 1 + 1 := by omega
  have m2 : ¬ w.heap.size + 1 + 1 = W3.heap.size := by omega
  have m3 : ¬ W3.heap.size = bn := by omega
  have m4 : ¬ bn = W3.heap.size := by omega
  have HB6 := hideR (show ∀ O, Below w.heap.size w (W3.alloc O) from fun O => beyond hB5 (single _ _))
  have HB5 := hideR hB5
  clear l1 l3 l4 hB5
  go_wp2_with fail
  refine bodyPost_ret (v := trip (nn, bl, 0)) (by simp [results, Tryz.results133, go_sem, *]) rfl ⟨rfl, ?_⟩
  first | exact set2 HB5.out (by omega) _ _ | exact set2 (HB6.out _) (by omega) _ _ | exact HB5.out | (refine set2 (Below.setCell (HB6.out _) ?_ _) (by omega) _ _; have := (HB6.out default).size; simp at this; omega) | trace_state
end Go.Proofs.YtondgencdcimjaaGreat

/-
  The contracts of the document's held, New and Of, for all numbers.
-/
namespace Go.Proofs.YtondgencdcimjaaGreat
open Go.RowKit Go.Shelf
set_option linter.unusedVariables false
theorem hR_no {N D : Int} {g : Bool} (h : canHold N D g = false) : hR N D g = (0, 0, 20) := by simp [hR, heldN, heldD, heldE, h]
theorem hR_yes {N D : Int} {g : Bool} (h : canHold N D g = true) : hR N D g = (sgn N g, D, 0) := by simp [hR, heldN, heldD, heldE, h, sgn]
theorem xheld_any (g : Bool) (P Q : Int) (w : World) (hP : U128 P) (hQ : U128 Q) (q : 0 < Q) :
    Calls Tryz.prog 133 #[.bool g, wv P, wv Q] w fun e w' => e = .returned (trip (hR (P / gcdI P Q) (Q / gcdI P Q) g)) ∧ Below w.heap.size w w' := by
  have G0 := gcdI_pos P Q hP.1 q
  have G1 := gcdI_le_right P Q q
  have hG : U128 (gcdI P Q) := ⟨by omega, by have := hQ.2; omega⟩
  obtain ⟨n0, n1⟩ := quo_bd P (gcdI P Q) hP.1 G0
  obtain ⟨m0, m1⟩ := quo_bd Q (gcdI P Q) hQ.1 G0
  have hC : ∀ w, Calls Tryz.prog 110 #[wv P, wv Q] w fun e w' => e = .returned (wv (gcdI P Q)) ∧ Below w.heap.size w w' := fun w => xcommon_any P Q w hP hQ
  have hD1 : ∀ w, Calls Tryz.prog 149 #[wv P, wv (gcdI P Q)] w fun e w' => e = .returned (.tuple #[wv (P / gcdI P Q), wv (P % gcdI P Q)]) ∧ Below w.heap.size w w' := fun w => xdivide_any P _ w hP hG G0
  have hD2 : ∀ w, Calls Tryz.prog 149 #[wv Q, wv (gcdI P Q)] w fun e w' => e = .returned (.tuple #[wv (Q / gcdI P Q), wv (Q % gcdI P Q)]) ∧ Below w.heap.size w w' := fun w => xdivide_any Q _ w hQ hG G0
  have hq : ¬ hiW Q = 0 ∨ ¬ loW Q = 0 := by
    have := hilo Q
    omega
  have un : U128 (P / gcdI P Q) := ⟨n0, by have := hP.2; omega⟩
  have ud : U128 (Q / gcdI P Q) := ⟨m0, by have := hQ.2; omega⟩
  clear hP hQ q G0 G1 hG n1 m1
  generalize P / gcdI P Q = N at *
  generalize Q / gcdI P Q = D at *
  generalize P % gcdI P Q = X at *
  generalize Q % gcdI P Q = Y at *
  generalize gcdI P Q = G at *
  have hN := hilo N
  have lN := lo_bd N
  have hD := hilo D
  have lD := lo_bd D
  have kN := hi_bd un
  have kD := hi_bd ud
  unfold wv at *
  by_cases c1 : hiW N = 0
  · by_cases c2 : mostOf g < loW N
    · have h : canHold N D g = false := by
        have : ¬ N ≤ mostOf g := by omega
        simp [canHold, this]
      rw [hR_no h]
      rw [c1] at hD1
      cases g
      · rcases hq with hq | hq
        · exact xheld_h_false_f2 _ _ _ _ _ _ _ _ _ _ _ _ _ w hq c2 hC hD1 hD2
        · exact xheld_l_false_f2 _ _ _ _ _ _ _ _ _ _ _ _ _ w hq c2 hC hD1 hD2
      · rcases hq with hq | hq
        · exact xheld_h_true_f2 _ _ _ _ _ _ _ _ _ _ _ _ _ w hq c2 hC hD1 hD2
        · exact xheld_l_true_f2 _ _ _ _ _ _ _ _ _ _ _ _ _ w hq c2 hC hD1 hD2
    · by_cases c3 : hiW D = 0
      · by_cases c4 : 9223372036854775807 < loW D
        · have h : canHold N D g = false := by
            have : ¬ D ≤ 9223372036854775807 := by omega
            simp [canHold, this]
          rw [hR_no h]
          rw [c1] at hD1
          rw [c3] at hD2
          cases g
          · rcases hq with hq | hq
            · exact xheld_h_false_f4 _ _ _ _ _ _ _ _ _ _ _ _ w hq c2 c4 hC hD1 hD2
            · exact xheld_l_false_f4 _ _ _ _ _ _ _ _ _ _ _ _ w hq c2 c4 hC hD1 hD2
          · rcases hq with hq | hq
            · exact xheld_h_true_f4 _ _ _ _ _ _ _ _ _ _ _ _ w hq c2 c4 hC hD1 hD2
            · exact xheld_l_true_f4 _ _ _ _ _ _ _ _ _ _ _ _ w hq c2 c4 hC hD1 hD2
        · have eN : N = loW N := by omega
          have eD : D = loW D := by omega
          have h : canHold N D g = true := by
            have h1 : N ≤ mostOf g := by omega
            have h2 : D ≤ 9223372036854775807 := by omega
            simp [canHold, h1, h2]
          have er : hR N D g = (sgn (loW N) g, loW D, 0) := by rw [hR_yes h, ← eN, ← eD]
          rw [er]
          rw [c1] at hD1
          rw [c3] at hD2
          have z1 : IntKind.i64.wrap (loW D) = loW D := by rw [IntKind.wrap_i64]; omega
          cases g
          · have c2' : ¬ 9223372036854775807 < loW N := c2
            have z2 : IntKind.i64.wrap (loW N) = sgn (loW N) false := by show _ = loW N; rw [IntKind.wrap_i64]; omega
            rcases hq with hq | hq
            · exact xheld_h_false_ok _ _ _ _ _ _ _ _ _ _ _ _ w hq _ c2 c4 z1 z2 hC hD1 hD2
            · exact xheld_l_false_ok _ _ _ _ _ _ _ _ _ _ _ _ w hq _ c2 c4 z1 z2 hC hD1 hD2
          · have c2' : ¬ 9223372036854775808 < loW N := c2
            have z2 : IntKind.i64.wrap (IntKind.u64.wrap (-loW N)) = sgn (loW N) true := by show _ = -loW N; rw [IntKind.wrap_i64, IntKind.wrap_u64]; omega
            rcases hq with hq | hq
            · exact xheld_h_true_ok _ _ _ _ _ _ _ _ _ _ _ _ w hq _ c2 c4 z1 z2 hC hD1 hD2
            · exact xheld_l_true_ok _ _ _ _ _ _ _ _ _ _ _ _ w hq _ c2 c4 z1 z2 hC hD1 hD2
      · have h : canHold N D g = false := by
          have : ¬ D ≤ 9223372036854775807 := by omega
          simp [canHold, this]
        rw [hR_no h]
        rw [c1] at hD1
        cases g
        · rcases hq with hq | hq
          · exact xheld_h_false_f3 _ _ _ _ _ _ _ _ _ _ _ _ _ w hq c2 c3 hC hD1 hD2
          · exact xheld_l_false_f3 _ _ _ _ _ _ _ _ _ _ _ _ _ w hq c2 c3 hC hD1 hD2
        · rcases hq with hq | hq
          · exact xheld_h_true_f3 _ _ _ _ _ _ _ _ _ _ _ _ _ w hq c2 c3 hC hD1 hD2
          · exact xheld_l_true_f3 _ _ _ _ _ _ _ _ _ _ _ _ _ w hq c2 c3 hC hD1 hD2
  · have h : canHold N D g = false := by
      have : ¬ N ≤ mostOf g := by unfold mostOf; split <;> omega
      simp [canHold, this]
    rw [hR_no h]
    cases g
    · rcases hq with hq | hq
      · exact xheld_h_false_f1 _ _ _ _ _ _ _ _ _ _ _ _ _ _ w hq c1 hC hD1 hD2
      · exact xheld_l_false_f1 _ _ _ _ _ _ _ _ _ _ _ _ _ _ w hq c1 hC hD1 hD2
    · rcases hq with hq | hq
      · exact xheld_h_true_f1 _ _ _ _ _ _ _ _ _ _ _ _ _ _ w hq c1 hC hD1 hD2
      · exact xheld_l_true_f1 _ _ _ _ _ _ _ _ _ _ _ _ _ _ w hq c1 hC hD1 hD2
/-- By a sign and sizes: the fraction in lowest terms. -/
theorem hR_can (P Q : Int) (g : Bool) (p : 0 ≤ P) (q : 0 < Q) : hR (P / gcdI P Q) (Q / gcdI P Q) g = canR (sgn P g) Q := by
  unfold canR
  rw [sz_sgn P g p]
  by_cases z : P = 0
  · subst z
    have : (0 : Int) / gcdI 0 Q = 0 := by simp
    rw [this]
    exact hR_zero _ _ _
  · have : decide (sgn P g < 0) = g := by
      unfold sgn
      cases g <;> simp <;> omega
    rw [this]
theorem xheld_can (g : Bool) (P Q : Int) (w : World) (hP : U128 P) (hQ : U128 Q) (q : 0 < Q) :
    Calls Tryz.prog 133 #[.bool g, wv P, wv Q] w fun e w' => e = .returned (trip (canR (sgn P g) Q)) ∧ Below w.heap.size w w' := by
  rw [← hR_can P Q g hP.1 q]
  exact xheld_any g P Q w hP hQ q
theorem xof_any (n : Int) (w : World) : Calls Tryz.prog 42 #[.int .i64 n] w fun e w' => e = .returned (rv n 1) ∧ Below w.heap.size w w' := by
  go_enter Tryz.func42, Tryz.ntmps42
  go_wp2
  refine bodyPost_ret (v := rv n 1) (by simp [results, Tryz.results42, go_sem]) rfl ⟨rfl, ?_⟩
  first | exact single _ _ | exact set2 (single _ _) (Nat.le_refl _) _ _
theorem xnew_raw (n d a b : Int) (g h : Bool) (t : Int × Int × Int) (w : World) (hg : decide (n < 0) = g) (hh : decide (d < 0) = h)
    (HA : Hid (∀ w, Calls Tryz.prog 111 #[.int .i64 n] w fun e w' => e = .returned (.int .u64 a) ∧ w' = w))
    (HB : Hid (∀ w, Calls Tryz.prog 111 #[.int .i64 d] w fun e w' => e = .returned (.int .u64 b) ∧ w' = w))
    (HH : Hid (∀ w, Calls Tryz.prog 133 #[.bool (g != h), .agg #[.int .u64 0, .int .u64 a], .agg #[.int .u64 0, .int .u64 b]] w fun e w' => e = .returned (trip t) ∧ Below w.heap.size w w')) :
    Calls Tryz.prog 78 #[.int .i64 n, .int .i64 d] w fun e w' => e = .returned (trip t) ∧ Below w.heap.size w w' := by
  obtain ⟨x, y, z⟩ := t
  go_enter Tryz.func78, Tryz.ntmps78
  go_wp2_with fail
  refine (HA.out _).mono ?_
  rintro e w1 ⟨rfl, rfl⟩
  go_wp2_with fail
  refine (HB.out _).mono ?_
  rintro e w1 ⟨rfl, rfl⟩
  go_wp2_with fail
  refine (HH.out _).mono ?_
  rintro e w2 ⟨rfl, hb⟩
  have s0 := kc ⟨w.heap.size, 0, none⟩ (.int .i64 0) hb (by first | assumption | simp [go_sem, *])
  have s1 := kc ⟨w.heap.size, 1, none⟩ (.int .i64 0) hb (by first | assumption | simp [go_sem, *])
  have s2 := kf ⟨w.heap.size, 0, none⟩ (.int .i64 0) hb (by first | assumption | simp [go_sem, *]) (by first | assumption | simp [go_sem, *])
  have s3 := kf ⟨w.heap.size, 1, none⟩ (.int .i64 0) hb (by first | assumption | simp [go_sem, *]) (by first | assumption | simp [go_sem, *])
  have hB := beyond (single w _) hb
  clear hb
  go_wp2_with fail
  refine bodyPost_ret (v := trip (x, y, z)) (by simp [results, Tryz.results78, go_sem, *]) rfl ⟨rfl, ?_⟩
  first | exact set2 hB (Nat.le_refl _) _ _ | exact hB
theorem xnew_any (n d : Int) (w : World) (hn : I64 n) (hd : I64 d) :
    Calls Tryz.prog 78 #[.int .i64 n, .int .i64 d] w fun e w' => e = .returned (trip (newT n d)) ∧ Below w.heap.size w w' := by
  have s1 := sz_bd n hn.1 hn.2
  have s2 := sz_bd d hd.1 hd.2
  refine xnew_raw n d (sz n) (sz d) _ _ _ w rfl rfl (fun w => xsize_any n w hn.1 hn.2) (fun w => xsize_any d w hd.1 hd.2) ?_
  show ∀ w, _
  intro w
  by_cases z : d = 0
  · subst z
    have e1 : sz 0 = 0 := by decide
    have e2 : newT n 0 = (0, 0, 21) := by simp [newT]
    rw [e1, e2]
    exact xheld_zero _ _ _ w
  · have p : 0 < sz d := by unfold sz; split <;> omega
    have h := xheld_can (decide (n < 0) != decide (d < 0)) (sz n) (sz d) w ⟨s1.1, by omega⟩ ⟨by omega, by omega⟩ p
    unfold wv at h
    rw [hi_small s1.1 (by omega), lo_small s1.1 (by omega), hi_small s2.1 (by omega), lo_small s2.1 (by omega)] at h
    have e : newT n d = canR (sgn (sz n) (decide (n < 0) != decide (d < 0))) (sz d) := by
      unfold newT
      rw [if_neg z]
      congr 1
      unfold sgn sz
      by_cases c : n < 0 <;> by_cases k : d < 0 <;> simp [c, k]
    rw [e]
    exact h
end Go.Proofs.YtondgencdcimjaaGreat

/-
  The contracts of the document's product and sum of fractions, by signs.
-/
namespace Go.Proofs.YtondgencdcimjaaGreat
open Go.RowKit Go.Shelf
set_option linter.unusedVariables false
theorem xmul_raw (x y a b : Int) (w : World) (H : Hid (∀ w, Calls Tryz.prog 170 #[.int .u64 x, .int .u64 y] w fun e w' => e = .returned (.tuple #[.int .u64 a, .int .u64 b]) ∧ w' = w)) :
    Calls Tryz.prog 150 #[.int .u64 x, .int .u64 y] w fun e w' => e = .returned (.agg #[.int .u64 a, .int .u64 b]) ∧ Below w.heap.size w w' := by
  go_enter Tryz.func150, Tryz.ntmps150
  go_wp2_with fail
  refine (H.out _).mono ?_
  rintro e w' ⟨rfl, rfl⟩
  go_wp2
  exact bodyPost_ret (v := .agg #[.int .u64 a, .int .u64 b]) (by simp [results, Tryz.results150, go_sem]) rfl ⟨rfl, (Below.refl _ _).alloc (Nat.le_refl _) _⟩
theorem xmul_any (x y : Int) (w : World) (hx : U64 x) (hy : U64 y) :
    Calls Tryz.prog 150 #[.int .u64 x, .int .u64 y] w fun e w' => e = .returned (wv (x * y)) ∧ Below w.heap.size w w' :=
  xmul_raw x y _ _ w (fun w => mul64 x y w hx hy)

theorem set_other {W : World} {b c o : Nat} {v x y : Value} (h : W.cell? ⟨c, o, none⟩ = some v) (n : ¬ b = c) : ((W.setCell ⟨b, 0, none⟩ x).setCell ⟨b, 1, none⟩ y).cell? ⟨c, o, none⟩ = some v := by
  have n' : ¬ c = b := fun e => n e.symm
  simp [go_sem, *]
set_option maxRecDepth 100000 in
set_option maxHeartbeats 4000000 in
theorem xsum_raw (an ad bn bd sa sb xh xl yh yl dh dl : Int) (t : Int × Int × Int) (w : World)
    (wa : IntKind.u64.wrap ad = ad) (wb : IntKind.u64.wrap bd = bd)
    (HSa : Hid (∀ w, Calls Tryz.prog 111 #[.int .i64 an] w fun e w' => e = .returned (.int .u64 sa) ∧ w' = w))
    (HSb : Hid (∀ w, Calls Tryz.prog 111 #[.int .i64 bn] w fun e w' => e = .returned (.int .u64 sb) ∧ w' = w))
    (HMx : Hid (∀ w, Calls Tryz.prog 150 #[.int .u64 sa, .int .u64 bd] w fun e w' => e = .returned (.agg #[.int .u64 xh, .int .u64 xl]) ∧ Below w.heap.size w w'))
    (HMy : Hid (∀ w, Calls Tryz.prog 150 #[.int .u64 sb, .int .u64 ad] w fun e w' => e = .returned (.agg #[.int .u64 yh, .int .u64 yl]) ∧ Below w.heap.size w w'))
    (HMd : Hid (∀ w, Calls Tryz.prog 150 #[.int .u64 ad, .int .u64 bd] w fun e w' => e = .returned (.agg #[.int .u64 dh, .int .u64 dl]) ∧ Below w.heap.size w w'))
    (HF : Hid ((∃ ph pl : Int, an < 0 ∧ decide (0 ≤ an) = false ∧ bn < 0 ∧ decide (0 ≤ bn) = false ∧ Hid (∀ w, Calls Tryz.prog 151 #[.agg #[.int .u64 xh, .int .u64 xl], .agg #[.int .u64 yh, .int .u64 yl]] w fun e w' => e = .returned (.agg #[.int .u64 ph, .int .u64 pl]) ∧ Below w.heap.size w w') ∧ Hid (∀ w, Calls Tryz.prog 133 #[.bool true, .agg #[.int .u64 ph, .int .u64 pl], .agg #[.int .u64 dh, .int .u64 dl]] w fun e w' => e = .returned (trip t) ∧ Below w.heap.size w w')) ∨
      (∃ ph pl : Int, decide (an < 0) = false ∧ 0 ≤ an ∧ decide (bn < 0) = false ∧ 0 ≤ bn ∧ Hid (∀ w, Calls Tryz.prog 151 #[.agg #[.int .u64 xh, .int .u64 xl], .agg #[.int .u64 yh, .int .u64 yl]] w fun e w' => e = .returned (.agg #[.int .u64 ph, .int .u64 pl]) ∧ Below w.heap.size w w') ∧ Hid (∀ w, Calls Tryz.prog 133 #[.bool false, .agg #[.int .u64 ph, .int .u64 pl], .agg #[.int .u64 dh, .int .u64 dl]] w fun e w' => e = .returned (trip t) ∧ Below w.heap.size w w')) ∨
      (∃ ph pl : Int, an < 0 ∧ decide (0 ≤ an) = false ∧ decide (bn < 0) = false ∧ 0 ≤ bn ∧ Hid (∀ w, Calls Tryz.prog 152 #[.agg #[.int .u64 xh, .int .u64 xl], .agg #[.int .u64 yh, .int .u64 yl]] w fun e w' => e = .returned (.bool true) ∧ Below w.heap.size w w') ∧ Hid (∀ w, Calls Tryz.prog 153 #[.agg #[.int .u64 yh, .int .u64 yl], .agg #[.int .u64 xh, .int .u64 xl]] w fun e w' => e = .returned (.agg #[.int .u64 ph, .int .u64 pl]) ∧ Below w.heap.size w w') ∧ Hid (∀ w, Calls Tryz.prog 133 #[.bool false, .agg #[.int .u64 ph, .int .u64 pl], .agg #[.int .u64 dh, .int .u64 dl]] w fun e w' => e = .returned (trip t) ∧ Below w.heap.size w w')) ∨
      (∃ ph pl : Int, an < 0 ∧ decide (0 ≤ an) = false ∧ decide (bn < 0) = false ∧ 0 ≤ bn ∧ Hid (∀ w, Calls Tryz.prog 152 #[.agg #[.int .u64 xh, .int .u64 xl], .agg #[.int .u64 yh, .int .u64 yl]] w fun e w' => e = .returned (.bool false) ∧ Below w.heap.size w w') ∧ Hid (∀ w, Calls Tryz.prog 153 #[.agg #[.int .u64 xh, .int .u64 xl], .agg #[.int .u64 yh, .int .u64 yl]] w fun e w' => e = .returned (.agg #[.int .u64 ph, .int .u64 pl]) ∧ Below w.heap.size w w') ∧ Hid (∀ w, Calls Tryz.prog 133 #[.bool true, .agg #[.int .u64 ph, .int .u64 pl], .agg #[.int .u64 dh, .int .u64 dl]] w fun e w' => e = .returned (trip t) ∧ Below w.heap.size w w')) ∨
      (∃ ph pl : Int, decide (an < 0) = false ∧ 0 ≤ an ∧ bn < 0 ∧ decide (0 ≤ bn) = false ∧ Hid (∀ w, Calls Tryz.prog 152 #[.agg #[.int .u64 xh, .int .u64 xl], .agg #[.int .u64 yh, .int .u64 yl]] w fun e w' => e = .returned (.bool true) ∧ Below w.heap.size w w') ∧ Hid (∀ w, Calls Tryz.prog 153 #[.agg #[.int .u64 yh, .int .u64 yl], .agg #[.int .u64 xh, .int .u64 xl]] w fun e w' => e = .returned (.agg #[.int .u64 ph, .int .u64 pl]) ∧ Below w.heap.size w w') ∧ Hid (∀ w, Calls Tryz.prog 133 #[.bool true, .agg #[.int .u64 ph, .int .u64 pl], .agg #[.int .u64 dh, .int .u64 dl]] w fun e w' => e = .returned (trip t) ∧ Below w.heap.size w w')) ∨
      (∃ ph pl : Int, decide (an < 0) = false ∧ 0 ≤ an ∧ bn < 0 ∧ decide (0 ≤ bn) = false ∧ Hid (∀ w, Calls Tryz.prog 152 #[.agg #[.int .u64 xh, .int .u64 xl], .agg #[.int .u64 yh, .int .u64 yl]] w fun e w' => e = .returned (.bool false) ∧ Below w.heap.size w w') ∧ Hid (∀ w, Calls Tryz.prog 153 #[.agg #[.int .u64 xh, .int .u64 xl], .agg #[.int .u64 yh, .int .u64 yl]] w fun e w' => e = .returned (.agg #[.int .u64 ph, .int .u64 pl]) ∧ Below w.heap.size w w') ∧ Hid (∀ w, Calls Tryz.prog 133 #[.bool false, .agg #[.int .u64 ph, .int .u64 pl], .agg #[.int .u64 dh, .int .u64 dl]] w fun e w' => e = .returned (trip t) ∧ Below w.heap.size w w')))) :
    Calls Tryz.prog 112 #[rv an ad, rv bn bd] w fun e w' => e = .returned (trip t) ∧ Below w.heap.size w w' := by
  obtain ⟨tn, td, te⟩ := t
  have n1 : ¬ w.heap.size = w.heap.size + 1 + 1 := by omega
  have n2 : ¬ w.heap.size + 1 + 1 = w.heap.size := by omega
  go_enter Tryz.func112, Tryz.ntmps112
  go_upto_region 1 with (fail)
  have HB0 : Below w.heap.size w (((w.alloc (.cells #[.int .i64 an, .int .i64 ad] 24)).alloc (.cells #[.int .i64 bn, .int .i64 bd] 24)).alloc (.cells #[.int .i64 0, .int .i64 0] 24)) := three w _ _ _
  have c0 : (((w.alloc (.cells #[.int .i64 an, .int .i64 ad] 24)).alloc (.cells #[.int .i64 bn, .int .i64 bd] 24)).alloc (.cells #[.int .i64 0, .int .i64 0] 24)).cell? ⟨w.heap.size, 0, none⟩ = some (.int .i64 an) := by simp [go_sem]
  have c1 : (((w.alloc (.cells #[.int .i64 an, .int .i64 ad] 24)).alloc (.cells #[.int .i64 bn, .int .i64 bd] 24)).alloc (.cells #[.int .i64 0, .int .i64 0] 24)).cell? ⟨w.heap.size, 1, none⟩ = some (.int .i64 ad) := by simp [go_sem]
  have c2 : (((w.alloc (.cells #[.int .i64 an, .int .i64 ad] 24)).alloc (.cells #[.int .i64 bn, .int .i64 bd] 24)).alloc (.cells #[.int .i64 0, .int .i64 0] 24)).cell? ⟨w.heap.size + 1, 0, none⟩ = some (.int .i64 bn) := by simp [go_sem]
  have c3 : (((w.alloc (.cells #[.int .i64 an, .int .i64 ad] 24)).alloc (.cells #[.int .i64 bn, .int .i64 bd] 24)).alloc (.cells #[.int .i64 0, .int .i64 0] 24)).cell? ⟨w.heap.size + 1, 1, none⟩ = some (.int .i64 bd) := by simp [go_sem]
  have c4 : (((w.alloc (.cells #[.int .i64 an, .int .i64 ad] 24)).alloc (.cells #[.int .i64 bn, .int .i64 bd] 24)).alloc (.cells #[.int .i64 0, .int .i64 0] 24)).cell? ⟨w.heap.size + 1 + 1, 0, none⟩ = some (.int .i64 0) := by simp [go_sem]
  have c5 : (((w.alloc (.cells #[.int .i64 an, .int .i64 ad] 24)).alloc (.cells #[.int .i64 bn, .int .i64 bd] 24)).alloc (.cells #[.int .i64 0, .int .i64 0] 24)).cell? ⟨w.heap.size + 1 + 1, 1, none⟩ = some (.int .i64 0) := by simp [go_sem]
  have cf0 : (((w.alloc (.cells #[.int .i64 an, .int .i64 ad] 24)).alloc (.cells #[.int .i64 bn, .int .i64 bd] 24)).alloc (.cells #[.int .i64 0, .int .i64 0] 24)).frozen? ⟨w.heap.size + 1 + 1, 0, none⟩ = false := by simp [go_sem]
  have cf1 : (((w.alloc (.cells #[.int .i64 an, .int .i64 ad] 24)).alloc (.cells #[.int .i64 bn, .int .i64 bd] 24)).alloc (.cells #[.int .i64 0, .int .i64 0] 24)).frozen? ⟨w.heap.size + 1 + 1, 1, none⟩ = false := by simp [go_sem]
  generalize (((w.alloc (.cells #[.int .i64 an, .int .i64 ad] 24)).alloc (.cells #[.int .i64 bn, .int .i64 bd] 24)).alloc (.cells #[.int .i64 0, .int .i64 0] 24)) = W at *
  have k6 := World.block_lt_of_cell? _ _ c4
  have k5 : w.heap.size + 1 + 1 < W.heap.size := k6
  have k1 : ¬ W.heap.size = w.heap.size := by omega
  have k2 : ¬ W.heap.size = w.heap.size + 1 := by omega
  have k3 : ¬ W.heap.size = w.heap.size + 1 + 1 := by omega
  clear k6
  go_cut [6] (fun t w' => ∃ bx : Nat, t = .pointer (some ⟨bx, 0, none⟩) ∧ w.heap.size + 1 + 1 < bx ∧ w'.cell? ⟨bx, 0, none⟩ = some (.int .u64 xh) ∧ w'.cell? ⟨bx, 1, none⟩ = some (.int .u64 xl) ∧ w'.cell? ⟨w.heap.size, 0, none⟩ = some (.int .i64 an) ∧ w'.cell? ⟨w.heap.size, 1, none⟩ = some (.int .i64 ad) ∧ w'.cell? ⟨w.heap.size + 1, 0, none⟩ = some (.int .i64 bn) ∧ w'.cell? ⟨w.heap.size + 1, 1, none⟩ = some (.int .i64 bd) ∧ w'.cell? ⟨w.heap.size + 1 + 1, 0, none⟩ = some (.int .i64 0) ∧ w'.cell? ⟨w.heap.size + 1 + 1, 1, none⟩ = some (.int .i64 0) ∧ w'.frozen? ⟨w.heap.size + 1 + 1, 0, none⟩ = false ∧ w'.frozen? ⟨w.heap.size + 1 + 1, 1, none⟩ = false ∧ Below w.heap.size w w')
  case first =>
    go_region_held3 (fun w' => w'.cell? ⟨w.heap.size, 0, none⟩ = some (.int .i64 an) ∧ w'.cell? ⟨w.heap.size, 1, none⟩ = some (.int .i64 ad) ∧ w'.cell? ⟨w.heap.size + 1, 0, none⟩ = some (.int .i64 bn) ∧ w'.cell? ⟨w.heap.size + 1, 1, none⟩ = some (.int .i64 bd))
      (first | exact ⟨by assumption, by assumption, by assumption, by assumption⟩ | go_keep)
      (first
        | (go_at_call 111; refine (HSa.out _).mono ?_; rintro e' w' ⟨rfl, rfl⟩)
        | (go_at_call 150; refine (HMx.out _).mono ?_; rintro e' w' ⟨rfl, hb⟩; have v0 := kc ⟨w.heap.size, 0, none⟩ (.int .i64 an) hb (by first | assumption | simp [go_sem, *]); have v1 := kc ⟨w.heap.size, 1, none⟩ (.int .i64 ad) hb (by first | assumption | simp [go_sem, *]); have v2 := kc ⟨w.heap.size + 1, 0, none⟩ (.int .i64 bn) hb (by first | assumption | simp [go_sem, *]); have v3 := kc ⟨w.heap.size + 1, 1, none⟩ (.int .i64 bd) hb (by first | assumption | simp [go_sem, *]); have v4 := kc ⟨w.heap.size + 1 + 1, 0, none⟩ (.int .i64 0) hb (by first | assumption | simp [go_sem, *]); have v5 := kc ⟨w.heap.size + 1 + 1, 1, none⟩ (.int .i64 0) hb (by first | assumption | simp [go_sem, *]); have vf0 := kf ⟨w.heap.size + 1 + 1, 0, none⟩ (.int .i64 0) hb (by first | assumption | simp [go_sem, *]) (by first | assumption | simp [go_sem, *]); have vf1 := kf ⟨w.heap.size + 1 + 1, 1, none⟩ (.int .i64 0) hb (by first | assumption | simp [go_sem, *]) (by first | assumption | simp [go_sem, *]); (first | (with_reducible (have zz := newPair hb); obtain ⟨z0, z1, q0, q1, q2, q3⟩ := zz) | (with_reducible (have zz := newPairD hb); obtain ⟨z0, z1, q0, q1, q2, q3⟩ := zz) | (with_reducible (have zz := newPairI hb); obtain ⟨z0, z1, q0, q1, q2, q3⟩ := zz) | skip); have hX := beyond (w := w) (by first | assumption | exact Below.drew (by assumption) | exact Below.alloc (by assumption) (Below.size (by assumption)) _ | exact Below.alloc (Below.drew (by assumption)) (Below.size (by assumption)) _ | exact Below.drew (Below.alloc (by assumption) (Below.size (by assumption)) _)) hb; have l5 : w.heap.size + 1 + 1 < w'.heap.size := World.block_lt_of_cell? _ _ v4; have l2 : ¬ w'.heap.size = w.heap.size := (by omega); have l3 : ¬ w'.heap.size = w.heap.size + 1 := (by omega); have l4 : ¬ w'.heap.size = w.heap.size + 1 + 1 := (by omega)))
    all_goals go_wp2_with fail
    all_goals go_meet
    all_goals refine ⟨_, rfl, ?_, ?_, ?_, ?_, ?_, ?_, ?_, ?_, ?_, ?_, ?_, ?_⟩
    all_goals first | with_reducible assumption | with_reducible exact set_other (by assumption) (by assumption) | with_reducible exact kc _ _ (single _ _) (by assumption) | (simp [go_sem]; done) | (simp [go_sem, *]; done) | exact Below.alloc (by assumption) (Below.size (by assumption)) _ | exact set2 (by assumption) (Nat.le_of_lt (Nat.lt_of_le_of_lt (Nat.le_add_right _ _) (by assumption))) _ _ | omega | skip
  case rest =>
    clear c0 c1 c2 c3 c4 c5 cf0 cf1 HB0 k1 k2 k3 k5
    obtain ⟨bx, rfl, hbx, x0, x1, c0, c1, c2, c3, c4, c5, cf0, cf1, HB0⟩ := hcut
    go_upto_region 2 with (fail)
    have k6 := World.block_lt_of_cell? _ _ c4
    have k5 : w.heap.size + 1 + 1 < wc.heap.size := k6
    have k1 : ¬ wc.heap.size = w.heap.size := by omega
    have k2 : ¬ wc.heap.size = w.heap.size + 1 := by omega
    have k3 : ¬ wc.heap.size = w.heap.size + 1 + 1 := by omega
    clear k6
    have kx : bx < wc.heap.size := World.block_lt_of_cell? _ _ x0
    have kx2 : ¬ wc.heap.size = bx := by omega
    go_cut [7] (fun t w' => ∃ by_ : Nat, t = .pointer (some ⟨by_, 0, none⟩) ∧ w.heap.size + 1 + 1 < by_ ∧ w'.cell? ⟨by_, 0, none⟩ = some (.int .u64 yh) ∧ w'.cell? ⟨by_, 1, none⟩ = some (.int .u64 yl) ∧ w'.cell? ⟨w.heap.size, 0, none⟩ = some (.int .i64 an) ∧ w'.cell? ⟨w.heap.size, 1, none⟩ = some (.int .i64 ad) ∧ w'.cell? ⟨w.heap.size + 1, 0, none⟩ = some (.int .i64 bn) ∧ w'.cell? ⟨w.heap.size + 1, 1, none⟩ = some (.int .i64 bd) ∧ w'.cell? ⟨w.heap.size + 1 + 1, 0, none⟩ = some (.int .i64 0) ∧ w'.cell? ⟨w.heap.size + 1 + 1, 1, none⟩ = some (.int .i64 0) ∧ w'.cell? ⟨bx, 0, none⟩ = some (.int .u64 xh) ∧ w'.cell? ⟨bx, 1, none⟩ = some (.int .u64 xl) ∧ w'.frozen? ⟨w.heap.size + 1 + 1, 0, none⟩ = false ∧ w'.frozen? ⟨w.heap.size + 1 + 1, 1, none⟩ = false ∧ Below w.heap.size w w')
    case first =>
      go_region_held3 (fun w' => w'.cell? ⟨w.heap.size, 0, none⟩ = some (.int .i64 an) ∧ w'.cell? ⟨w.heap.size, 1, none⟩ = some (.int .i64 ad) ∧ w'.cell? ⟨w.heap.size + 1, 0, none⟩ = some (.int .i64 bn) ∧ w'.cell? ⟨w.heap.size + 1, 1, none⟩ = some (.int .i64 bd))
        (first | exact ⟨by assumption, by assumption, by assumption, by assumption⟩ | go_keep)
        (first
          | (go_at_call 111; refine (HSb.out _).mono ?_; rintro e' w' ⟨rfl, rfl⟩)
          | (go_at_call 150; refine (HMy.out _).mono ?_; rintro e' w' ⟨rfl, hb⟩; have v0 := kc ⟨w.heap.size, 0, none⟩ (.int .i64 an) hb (by first | assumption | simp [go_sem, *]); have v1 := kc ⟨w.heap.size, 1, none⟩ (.int .i64 ad) hb (by first | assumption | simp [go_sem, *]); have v2 := kc ⟨w.heap.size + 1, 0, none⟩ (.int .i64 bn) hb (by first | assumption | simp [go_sem, *]); have v3 := kc ⟨w.heap.size + 1, 1, none⟩ (.int .i64 bd) hb (by first | assumption | simp [go_sem, *]); have v4 := kc ⟨w.heap.size + 1 + 1, 0, none⟩ (.int .i64 0) hb (by first | assumption | simp [go_sem, *]); have v5 := kc ⟨w.heap.size + 1 + 1, 1, none⟩ (.int .i64 0) hb (by first | assumption | simp [go_sem, *]); have v6 := kc ⟨bx, 0, none⟩ (.int .u64 xh) hb (by first | assumption | simp [go_sem, *]); have v7 := kc ⟨bx, 1, none⟩ (.int .u64 xl) hb (by first | assumption | simp [go_sem, *]); have vf0 := kf ⟨w.heap.size + 1 + 1, 0, none⟩ (.int .i64 0) hb (by first | assumption | simp [go_sem, *]) (by first | assumption | simp [go_sem, *]); have vf1 := kf ⟨w.heap.size + 1 + 1, 1, none⟩ (.int .i64 0) hb (by first | assumption | simp [go_sem, *]) (by first | assumption | simp [go_sem, *]); (first | (with_reducible (have zz := newPair hb); obtain ⟨z0, z1, q0, q1, q2, q3⟩ := zz) | (with_reducible (have zz := newPairD hb); obtain ⟨z0, z1, q0, q1, q2, q3⟩ := zz) | (with_reducible (have zz := newPairI hb); obtain ⟨z0, z1, q0, q1, q2, q3⟩ := zz) | skip); have hX := beyond (w := w) (by first | assumption | exact Below.drew (by assumption) | exact Below.alloc (by assumption) (Below.size (by assumption)) _ | exact Below.alloc (Below.drew (by assumption)) (Below.size (by assumption)) _ | exact Below.drew (Below.alloc (by assumption) (Below.size (by assumption)) _)) hb; have l5 : w.heap.size + 1 + 1 < w'.heap.size := World.block_lt_of_cell? _ _ v4; have l2 : ¬ w'.heap.size = w.heap.size := (by omega); have l3 : ¬ w'.heap.size = w.heap.size + 1 := (by omega); have l4 : ¬ w'.heap.size = w.heap.size + 1 + 1 := (by omega); have lx_bx : bx < w'.heap.size := World.block_lt_of_cell? _ _ v6; have ly_bx : ¬ w'.heap.size = bx := (by omega)))
      all_goals go_wp2_with fail
      all_goals go_meet
      all_goals refine ⟨_, rfl, ?_, ?_, ?_, ?_, ?_, ?_, ?_, ?_, ?_, ?_, ?_, ?_, ?_, ?_⟩
      all_goals first | with_reducible assumption | with_reducible exact set_other (by assumption) (by assumption) | with_reducible exact kc _ _ (single _ _) (by assumption) | (simp [go_sem]; done) | (simp [go_sem, *]; done) | exact Below.alloc (by assumption) (Below.size (by assumption)) _ | exact set2 (by assumption) (Nat.le_of_lt (Nat.lt_of_le_of_lt (Nat.le_add_right _ _) (by assumption))) _ _ | omega | skip
    case rest =>
      clear x0 x1 c0 c1 c2 c3 c4 c5 cf0 cf1 HB0 k1 k2 k3 k5 kx kx2
      obtain ⟨by_, rfl, hby, y0, y1, c0, c1, c2, c3, c4, c5, x0, x1, cf0, cf1, HB0⟩ := hcut
      go_wp2_with fail
      refine (HMd.out _).mono ?_
      rintro e' w1 ⟨rfl, hb⟩
      have x0_ := kc _ _ hb x0
      have x1_ := kc _ _ hb x1
      have y0_ := kc _ _ hb y0
      have y1_ := kc _ _ hb y1
      have c0_ := kc _ _ hb c0
      have c1_ := kc _ _ hb c1
      have c2_ := kc _ _ hb c2
      have c3_ := kc _ _ hb c3
      have c4_ := kc _ _ hb c4
      have c5_ := kc _ _ hb c5
      have cf0_ := kf _ _ hb c4 cf0
      have cf1_ := kf _ _ hb c5 cf1
      have HB1 := beyond HB0 hb
      clear hb HB0 x0 x1 y0 y1 c0 c1 c2 c3 c4 c5 cf0 cf1 HSa HSb HMx HMy HMd
      go_upto_region 4 with (fail)
      have x0 : (w1.alloc (.cells #[.int .u64 dh, .int .u64 dl] 165)).cell? ⟨bx, 0, none⟩ = some (.int .u64 xh) := kc _ _ (single _ _) x0_
      have x1 : (w1.alloc (.cells #[.int .u64 dh, .int .u64 dl] 165)).cell? ⟨bx, 1, none⟩ = some (.int .u64 xl) := kc _ _ (single _ _) x1_
      have y0 : (w1.alloc (.cells #[.int .u64 dh, .int .u64 dl] 165)).cell? ⟨by_, 0, none⟩ = some (.int .u64 yh) := kc _ _ (single _ _) y0_
      have y1 : (w1.alloc (.cells #[.int .u64 dh, .int .u64 dl] 165)).cell? ⟨by_, 1, none⟩ = some (.int .u64 yl) := kc _ _ (single _ _) y1_
      have c0 : (w1.alloc (.cells #[.int .u64 dh, .int .u64 dl] 165)).cell? ⟨w.heap.size, 0, none⟩ = some (.int .i64 an) := kc _ _ (single _ _) c0_
      have c1 : (w1.alloc (.cells #[.int .u64 dh, .int .u64 dl] 165)).cell? ⟨w.heap.size, 1, none⟩ = some (.int .i64 ad) := kc _ _ (single _ _) c1_
      have c2 : (w1.alloc (.cells #[.int .u64 dh, .int .u64 dl] 165)).cell? ⟨w.heap.size + 1, 0, none⟩ = some (.int .i64 bn) := kc _ _ (single _ _) c2_
      have c3 : (w1.alloc (.cells #[.int .u64 dh, .int .u64 dl] 165)).cell? ⟨w.heap.size + 1, 1, none⟩ = some (.int .i64 bd) := kc _ _ (single _ _) c3_
      have c4 : (w1.alloc (.cells #[.int .u64 dh, .int .u64 dl] 165)).cell? ⟨w.heap.size + 1 + 1, 0, none⟩ = some (.int .i64 0) := kc _ _ (single _ _) c4_
      have c5 : (w1.alloc (.cells #[.int .u64 dh, .int .u64 dl] 165)).cell? ⟨w.heap.size + 1 + 1, 1, none⟩ = some (.int .i64 0) := kc _ _ (single _ _) c5_
      have cf0 : (w1.alloc (.cells #[.int .u64 dh, .int .u64 dl] 165)).frozen? ⟨w.heap.size + 1 + 1, 0, none⟩ = false := kf _ _ (single _ _) c4_ cf0_
      have cf1 : (w1.alloc (.cells #[.int .u64 dh, .int .u64 dl] 165)).frozen? ⟨w.heap.size + 1 + 1, 1, none⟩ = false := kf _ _ (single _ _) c5_ cf1_
      have d0 : (w1.alloc (.cells #[.int .u64 dh, .int .u64 dl] 165)).cell? ⟨w1.heap.size, 0, none⟩ = some (.int .u64 dh) := new_cell w1 _ _ 0
      have d1 : (w1.alloc (.cells #[.int .u64 dh, .int .u64 dl] 165)).cell? ⟨w1.heap.size, 1, none⟩ = some (.int .u64 dl) := new_cell w1 _ _ 1
      have HB2 : Below w.heap.size w (w1.alloc (.cells #[.int .u64 dh, .int .u64 dl] 165)) := beyond HB1 (single _ _)
      have kd : w.heap.size + 1 + 1 < w1.heap.size := World.block_lt_of_cell? _ _ c4_
      clear HB1 x0_ x1_ y0_ y1_ c0_ c1_ c2_ c3_ c4_ c5_ cf0_ cf1_
      generalize (w1.alloc (.cells #[.int .u64 dh, .int .u64 dl] 165)) = W1 at *
      generalize w1.heap.size = bd_ at *
      have u_bx : ¬ bx = w.heap.size + 1 + 1 := by omega
      have t_bx : ¬ w.heap.size + 1 + 1 = bx := by omega
      have u_by_ : ¬ by_ = w.heap.size + 1 + 1 := by omega
      have t_by_ : ¬ w.heap.size + 1 + 1 = by_ := by omega
      have u_bd_ : ¬ bd_ = w.heap.size + 1 + 1 := by omega
      have t_bd_ : ¬ w.heap.size + 1 + 1 = bd_ := by omega
      rcases HF.out with ⟨ph, pl, h1, h1b, h2, h2b, HP, HH⟩ | ⟨ph, pl, h1, h1b, h2, h2b, HP, HH⟩ | ⟨ph, pl, h1, h1b, h2, h2b, HB, HP, HH⟩ | ⟨ph, pl, h1, h1b, h2, h2b, HB, HP, HH⟩ | ⟨ph, pl, h1, h1b, h2, h2b, HB, HP, HH⟩ | ⟨ph, pl, h1, h1b, h2, h2b, HB, HP, HH⟩
      · clear HF
        go_upto_region 5 with (fail)
        go_region_held3 (fun w' => w'.cell? ⟨w.heap.size, 0, none⟩ = some (.int .i64 an) ∧ w'.cell? ⟨w.heap.size + 1, 0, none⟩ = some (.int .i64 bn) ∧ w'.cell? ⟨bx, 0, none⟩ = some (.int .u64 xh) ∧ w'.cell? ⟨bx, 1, none⟩ = some (.int .u64 xl) ∧ w'.cell? ⟨by_, 0, none⟩ = some (.int .u64 yh) ∧ w'.cell? ⟨by_, 1, none⟩ = some (.int .u64 yl) ∧ w'.cell? ⟨bd_, 0, none⟩ = some (.int .u64 dh) ∧ w'.cell? ⟨bd_, 1, none⟩ = some (.int .u64 dl))
          (first | exact ⟨by assumption, by assumption, by assumption, by assumption, by assumption, by assumption, by assumption, by assumption⟩ | go_keep)
          (first
            | (go_at_call 151; refine (HP.out _).mono ?_; rintro e' w' ⟨rfl, hb⟩; have v0 := kc ⟨w.heap.size, 0, none⟩ (.int .i64 an) hb (by first | assumption | simp [go_sem, *]); have v1 := kc ⟨w.heap.size, 1, none⟩ (.int .i64 ad) hb (by first | assumption | simp [go_sem, *]); have v2 := kc ⟨w.heap.size + 1, 0, none⟩ (.int .i64 bn) hb (by first | assumption | simp [go_sem, *]); have v3 := kc ⟨w.heap.size + 1, 1, none⟩ (.int .i64 bd) hb (by first | assumption | simp [go_sem, *]); have v4 := kc ⟨w.heap.size + 1 + 1, 0, none⟩ (.int .i64 0) hb (by first | assumption | simp [go_sem, *]); have v5 := kc ⟨w.heap.size + 1 + 1, 1, none⟩ (.int .i64 0) hb (by first | assumption | simp [go_sem, *]); have v6 := kc ⟨bx, 0, none⟩ (.int .u64 xh) hb (by first | assumption | simp [go_sem, *]); have v7 := kc ⟨bx, 1, none⟩ (.int .u64 xl) hb (by first | assumption | simp [go_sem, *]); have v8 := kc ⟨by_, 0, none⟩ (.int .u64 yh) hb (by first | assumption | simp [go_sem, *]); have v9 := kc ⟨by_, 1, none⟩ (.int .u64 yl) hb (by first | assumption | simp [go_sem, *]); have v10 := kc ⟨bd_, 0, none⟩ (.int .u64 dh) hb (by first | assumption | simp [go_sem, *]); have v11 := kc ⟨bd_, 1, none⟩ (.int .u64 dl) hb (by first | assumption | simp [go_sem, *]); have vf0 := kf ⟨w.heap.size + 1 + 1, 0, none⟩ (.int .i64 0) hb (by first | assumption | simp [go_sem, *]) (by first | assumption | simp [go_sem, *]); have vf1 := kf ⟨w.heap.size + 1 + 1, 1, none⟩ (.int .i64 0) hb (by first | assumption | simp [go_sem, *]) (by first | assumption | simp [go_sem, *]); (first | (with_reducible (have zz := newPair hb); obtain ⟨z0, z1, q0, q1, q2, q3⟩ := zz) | (with_reducible (have zz := newPairD hb); obtain ⟨z0, z1, q0, q1, q2, q3⟩ := zz) | (with_reducible (have zz := newPairI hb); obtain ⟨z0, z1, q0, q1, q2, q3⟩ := zz) | skip); have hX := beyond (w := w) (by first | assumption | exact Below.drew (by assumption) | exact Below.alloc (by assumption) (Below.size (by assumption)) _ | exact Below.alloc (Below.drew (by assumption)) (Below.size (by assumption)) _ | exact Below.drew (Below.alloc (by assumption) (Below.size (by assumption)) _)) hb; have l5 : w.heap.size + 1 + 1 < w'.heap.size := World.block_lt_of_cell? _ _ v4; have l2 : ¬ w'.heap.size = w.heap.size := (by omega); have l3 : ¬ w'.heap.size = w.heap.size + 1 := (by omega); have l4 : ¬ w'.heap.size = w.heap.size + 1 + 1 := (by omega))
            | (go_at_call 133; refine (HH.out _).mono ?_; rintro e' w' ⟨rfl, hb⟩; have v0 := kc ⟨w.heap.size, 0, none⟩ (.int .i64 an) hb (by first | assumption | simp [go_sem, *]); have v1 := kc ⟨w.heap.size, 1, none⟩ (.int .i64 ad) hb (by first | assumption | simp [go_sem, *]); have v2 := kc ⟨w.heap.size + 1, 0, none⟩ (.int .i64 bn) hb (by first | assumption | simp [go_sem, *]); have v3 := kc ⟨w.heap.size + 1, 1, none⟩ (.int .i64 bd) hb (by first | assumption | simp [go_sem, *]); have v4 := kc ⟨w.heap.size + 1 + 1, 0, none⟩ (.int .i64 0) hb (by first | assumption | simp [go_sem, *]); have v5 := kc ⟨w.heap.size + 1 + 1, 1, none⟩ (.int .i64 0) hb (by first | assumption | simp [go_sem, *]); have v6 := kc ⟨bx, 0, none⟩ (.int .u64 xh) hb (by first | assumption | simp [go_sem, *]); have v7 := kc ⟨bx, 1, none⟩ (.int .u64 xl) hb (by first | assumption | simp [go_sem, *]); have v8 := kc ⟨by_, 0, none⟩ (.int .u64 yh) hb (by first | assumption | simp [go_sem, *]); have v9 := kc ⟨by_, 1, none⟩ (.int .u64 yl) hb (by first | assumption | simp [go_sem, *]); have v10 := kc ⟨bd_, 0, none⟩ (.int .u64 dh) hb (by first | assumption | simp [go_sem, *]); have v11 := kc ⟨bd_, 1, none⟩ (.int .u64 dl) hb (by first | assumption | simp [go_sem, *]); have vf0 := kf ⟨w.heap.size + 1 + 1, 0, none⟩ (.int .i64 0) hb (by first | assumption | simp [go_sem, *]) (by first | assumption | simp [go_sem, *]); have vf1 := kf ⟨w.heap.size + 1 + 1, 1, none⟩ (.int .i64 0) hb (by first | assumption | simp [go_sem, *]) (by first | assumption | simp [go_sem, *]); (first | (with_reducible (have zz := newPair hb); obtain ⟨z0, z1, q0, q1, q2, q3⟩ := zz) | (with_reducible (have zz := newPairD hb); obtain ⟨z0, z1, q0, q1, q2, q3⟩ := zz) | (with_reducible (have zz := newPairI hb); obtain ⟨z0, z1, q0, q1, q2, q3⟩ := zz) | skip); have hX := beyond (w := w) (by first | assumption | exact Below.drew (by assumption) | exact Below.alloc (by assumption) (Below.size (by assumption)) _ | exact Below.alloc (Below.drew (by assumption)) (Below.size (by assumption)) _ | exact Below.drew (Below.alloc (by assumption) (Below.size (by assumption)) _)) hb; have l5 : w.heap.size + 1 + 1 < w'.heap.size := World.block_lt_of_cell? _ _ v4; have l2 : ¬ w'.heap.size = w.heap.size := (by omega); have l3 : ¬ w'.heap.size = w.heap.size + 1 := (by omega); have l4 : ¬ w'.heap.size = w.heap.size + 1 + 1 := (by omega)))
        all_goals
          go_wp2
          refine bodyPost_ret (v := trip (tn, td, te)) (by simp [results, Tryz.results112, go_sem, *]) rfl ⟨rfl, ?_⟩
          first | exact set2 (by assumption) (by omega) _ _ | assumption
      · clear HF
        go_upto_region 5 with (fail)
        go_region_held3 (fun w' => w'.cell? ⟨w.heap.size, 0, none⟩ = some (.int .i64 an) ∧ w'.cell? ⟨w.heap.size + 1, 0, none⟩ = some (.int .i64 bn) ∧ w'.cell? ⟨bx, 0, none⟩ = some (.int .u64 xh) ∧ w'.cell? ⟨bx, 1, none⟩ = some (.int .u64 xl) ∧ w'.cell? ⟨by_, 0, none⟩ = some (.int .u64 yh) ∧ w'.cell? ⟨by_, 1, none⟩ = some (.int .u64 yl) ∧ w'.cell? ⟨bd_, 0, none⟩ = some (.int .u64 dh) ∧ w'.cell? ⟨bd_, 1, none⟩ = some (.int .u64 dl))
          (first | exact ⟨by assumption, by assumption, by assumption, by assumption, by assumption, by assumption, by assumption, by assumption⟩ | go_keep)
          (first
            | (go_at_call 151; refine (HP.out _).mono ?_; rintro e' w' ⟨rfl, hb⟩; have v0 := kc ⟨w.heap.size, 0, none⟩ (.int .i64 an) hb (by first | assumption | simp [go_sem, *]); have v1 := kc ⟨w.heap.size, 1, none⟩ (.int .i64 ad) hb (by first | assumption | simp [go_sem, *]); have v2 := kc ⟨w.heap.size + 1, 0, none⟩ (.int .i64 bn) hb (by first | assumption | simp [go_sem, *]); have v3 := kc ⟨w.heap.size + 1, 1, none⟩ (.int .i64 bd) hb (by first | assumption | simp [go_sem, *]); have v4 := kc ⟨w.heap.size + 1 + 1, 0, none⟩ (.int .i64 0) hb (by first | assumption | simp [go_sem, *]); have v5 := kc ⟨w.heap.size + 1 + 1, 1, none⟩ (.int .i64 0) hb (by first | assumption | simp [go_sem, *]); have v6 := kc ⟨bx, 0, none⟩ (.int .u64 xh) hb (by first | assumption | simp [go_sem, *]); have v7 := kc ⟨bx, 1, none⟩ (.int .u64 xl) hb (by first | assumption | simp [go_sem, *]); have v8 := kc ⟨by_, 0, none⟩ (.int .u64 yh) hb (by first | assumption | simp [go_sem, *]); have v9 := kc ⟨by_, 1, none⟩ (.int .u64 yl) hb (by first | assumption | simp [go_sem, *]); have v10 := kc ⟨bd_, 0, none⟩ (.int .u64 dh) hb (by first | assumption | simp [go_sem, *]); have v11 := kc ⟨bd_, 1, none⟩ (.int .u64 dl) hb (by first | assumption | simp [go_sem, *]); have vf0 := kf ⟨w.heap.size + 1 + 1, 0, none⟩ (.int .i64 0) hb (by first | assumption | simp [go_sem, *]) (by first | assumption | simp [go_sem, *]); have vf1 := kf ⟨w.heap.size + 1 + 1, 1, none⟩ (.int .i64 0) hb (by first | assumption | simp [go_sem, *]) (by first | assumption | simp [go_sem, *]); (first | (with_reducible (have zz := newPair hb); obtain ⟨z0, z1, q0, q1, q2, q3⟩ := zz) | (with_reducible (have zz := newPairD hb); obtain ⟨z0, z1, q0, q1, q2, q3⟩ := zz) | (with_reducible (have zz := newPairI hb); obtain ⟨z0, z1, q0, q1, q2, q3⟩ := zz) | skip); have hX := beyond (w := w) (by first | assumption | exact Below.drew (by assumption) | exact Below.alloc (by assumption) (Below.size (by assumption)) _ | exact Below.alloc (Below.drew (by assumption)) (Below.size (by assumption)) _ | exact Below.drew (Below.alloc (by assumption) (Below.size (by assumption)) _)) hb; have l5 : w.heap.size + 1 + 1 < w'.heap.size := World.block_lt_of_cell? _ _ v4; have l2 : ¬ w'.heap.size = w.heap.size := (by omega); have l3 : ¬ w'.heap.size = w.heap.size + 1 := (by omega); have l4 : ¬ w'.heap.size = w.heap.size + 1 + 1 := (by omega))
            | (go_at_call 133; refine (HH.out _).mono ?_; rintro e' w' ⟨rfl, hb⟩; have v0 := kc ⟨w.heap.size, 0, none⟩ (.int .i64 an) hb (by first | assumption | simp [go_sem, *]); have v1 := kc ⟨w.heap.size, 1, none⟩ (.int .i64 ad) hb (by first | assumption | simp [go_sem, *]); have v2 := kc ⟨w.heap.size + 1, 0, none⟩ (.int .i64 bn) hb (by first | assumption | simp [go_sem, *]); have v3 := kc ⟨w.heap.size + 1, 1, none⟩ (.int .i64 bd) hb (by first | assumption | simp [go_sem, *]); have v4 := kc ⟨w.heap.size + 1 + 1, 0, none⟩ (.int .i64 0) hb (by first | assumption | simp [go_sem, *]); have v5 := kc ⟨w.heap.size + 1 + 1, 1, none⟩ (.int .i64 0) hb (by first | assumption | simp [go_sem, *]); have v6 := kc ⟨bx, 0, none⟩ (.int .u64 xh) hb (by first | assumption | simp [go_sem, *]); have v7 := kc ⟨bx, 1, none⟩ (.int .u64 xl) hb (by first | assumption | simp [go_sem, *]); have v8 := kc ⟨by_, 0, none⟩ (.int .u64 yh) hb (by first | assumption | simp [go_sem, *]); have v9 := kc ⟨by_, 1, none⟩ (.int .u64 yl) hb (by first | assumption | simp [go_sem, *]); have v10 := kc ⟨bd_, 0, none⟩ (.int .u64 dh) hb (by first | assumption | simp [go_sem, *]); have v11 := kc ⟨bd_, 1, none⟩ (.int .u64 dl) hb (by first | assumption | simp [go_sem, *]); have vf0 := kf ⟨w.heap.size + 1 + 1, 0, none⟩ (.int .i64 0) hb (by first | assumption | simp [go_sem, *]) (by first | assumption | simp [go_sem, *]); have vf1 := kf ⟨w.heap.size + 1 + 1, 1, none⟩ (.int .i64 0) hb (by first | assumption | simp [go_sem, *]) (by first | assumption | simp [go_sem, *]); (first | (with_reducible (have zz := newPair hb); obtain ⟨z0, z1, q0, q1, q2, q3⟩ := zz) | (with_reducible (have zz := newPairD hb); obtain ⟨z0, z1, q0, q1, q2, q3⟩ := zz) | (with_reducible (have zz := newPairI hb); obtain ⟨z0, z1, q0, q1, q2, q3⟩ := zz) | skip); have hX := beyond (w := w) (by first | assumption | exact Below.drew (by assumption) | exact Below.alloc (by assumption) (Below.size (by assumption)) _ | exact Below.alloc (Below.drew (by assumption)) (Below.size (by assumption)) _ | exact Below.drew (Below.alloc (by assumption) (Below.size (by assumption)) _)) hb; have l5 : w.heap.size + 1 + 1 < w'.heap.size := World.block_lt_of_cell? _ _ v4; have l2 : ¬ w'.heap.size = w.heap.size := (by omega); have l3 : ¬ w'.heap.size = w.heap.size + 1 := (by omega); have l4 : ¬ w'.heap.size = w.heap.size + 1 + 1 := (by omega)))
        all_goals
          go_wp2
          refine bodyPost_ret (v := trip (tn, td, te)) (by simp [results, Tryz.results112, go_sem, *]) rfl ⟨rfl, ?_⟩
          first | exact set2 (by assumption) (by omega) _ _ | assumption
      · clear HF
        go_wp2_with fail
        refine (HB.out _).mono ?_
        rintro e' w2 ⟨rfl, hb⟩
        have x0_ := kc _ _ hb x0
        have x1_ := kc _ _ hb x1
        have y0_ := kc _ _ hb y0
        have y1_ := kc _ _ hb y1
        have c0_ := kc _ _ hb c0
        have c1_ := kc _ _ hb c1
        have c2_ := kc _ _ hb c2
        have c3_ := kc _ _ hb c3
        have c4_ := kc _ _ hb c4
        have c5_ := kc _ _ hb c5
        have d0_ := kc _ _ hb d0
        have d1_ := kc _ _ hb d1
        have cf0_ := kf _ _ hb c4 cf0
        have cf1_ := kf _ _ hb c5 cf1
        have HB1 := beyond HB2 hb
        clear hb HB2 x0 x1 y0 y1 c0 c1 c2 c3 c4 c5 d0 d1 cf0 cf1 HB
        go_upto_region 7 with (fail)
        go_region_held3 (fun w' => w'.cell? ⟨w.heap.size, 0, none⟩ = some (.int .i64 an) ∧ w'.cell? ⟨w.heap.size + 1, 0, none⟩ = some (.int .i64 bn) ∧ w'.cell? ⟨bx, 0, none⟩ = some (.int .u64 xh) ∧ w'.cell? ⟨bx, 1, none⟩ = some (.int .u64 xl) ∧ w'.cell? ⟨by_, 0, none⟩ = some (.int .u64 yh) ∧ w'.cell? ⟨by_, 1, none⟩ = some (.int .u64 yl) ∧ w'.cell? ⟨bd_, 0, none⟩ = some (.int .u64 dh) ∧ w'.cell? ⟨bd_, 1, none⟩ = some (.int .u64 dl))
          (first | exact ⟨by assumption, by assumption, by assumption, by assumption, by assumption, by assumption, by assumption, by assumption⟩ | go_keep)
          (first
            | (go_at_call 153; refine (HP.out _).mono ?_; rintro e' w' ⟨rfl, hb⟩; have v0 := kc ⟨w.heap.size, 0, none⟩ (.int .i64 an) hb (by first | assumption | simp [go_sem, *]); have v1 := kc ⟨w.heap.size, 1, none⟩ (.int .i64 ad) hb (by first | assumption | simp [go_sem, *]); have v2 := kc ⟨w.heap.size + 1, 0, none⟩ (.int .i64 bn) hb (by first | assumption | simp [go_sem, *]); have v3 := kc ⟨w.heap.size + 1, 1, none⟩ (.int .i64 bd) hb (by first | assumption | simp [go_sem, *]); have v4 := kc ⟨w.heap.size + 1 + 1, 0, none⟩ (.int .i64 0) hb (by first | assumption | simp [go_sem, *]); have v5 := kc ⟨w.heap.size + 1 + 1, 1, none⟩ (.int .i64 0) hb (by first | assumption | simp [go_sem, *]); have v6 := kc ⟨bx, 0, none⟩ (.int .u64 xh) hb (by first | assumption | simp [go_sem, *]); have v7 := kc ⟨bx, 1, none⟩ (.int .u64 xl) hb (by first | assumption | simp [go_sem, *]); have v8 := kc ⟨by_, 0, none⟩ (.int .u64 yh) hb (by first | assumption | simp [go_sem, *]); have v9 := kc ⟨by_, 1, none⟩ (.int .u64 yl) hb (by first | assumption | simp [go_sem, *]); have v10 := kc ⟨bd_, 0, none⟩ (.int .u64 dh) hb (by first | assumption | simp [go_sem, *]); have v11 := kc ⟨bd_, 1, none⟩ (.int .u64 dl) hb (by first | assumption | simp [go_sem, *]); have vf0 := kf ⟨w.heap.size + 1 + 1, 0, none⟩ (.int .i64 0) hb (by first | assumption | simp [go_sem, *]) (by first | assumption | simp [go_sem, *]); have vf1 := kf ⟨w.heap.size + 1 + 1, 1, none⟩ (.int .i64 0) hb (by first | assumption | simp [go_sem, *]) (by first | assumption | simp [go_sem, *]); (first | (with_reducible (have zz := newPair hb); obtain ⟨z0, z1, q0, q1, q2, q3⟩ := zz) | (with_reducible (have zz := newPairD hb); obtain ⟨z0, z1, q0, q1, q2, q3⟩ := zz) | (with_reducible (have zz := newPairI hb); obtain ⟨z0, z1, q0, q1, q2, q3⟩ := zz) | skip); have hX := beyond (w := w) (by first | assumption | exact Below.drew (by assumption) | exact Below.alloc (by assumption) (Below.size (by assumption)) _ | exact Below.alloc (Below.drew (by assumption)) (Below.size (by assumption)) _ | exact Below.drew (Below.alloc (by assumption) (Below.size (by assumption)) _)) hb; have l5 : w.heap.size + 1 + 1 < w'.heap.size := World.block_lt_of_cell? _ _ v4; have l2 : ¬ w'.heap.size = w.heap.size := (by omega); have l3 : ¬ w'.heap.size = w.heap.size + 1 := (by omega); have l4 : ¬ w'.heap.size = w.heap.size + 1 + 1 := (by omega))
            | (go_at_call 133; refine (HH.out _).mono ?_; rintro e' w' ⟨rfl, hb⟩; have v0 := kc ⟨w.heap.size, 0, none⟩ (.int .i64 an) hb (by first | assumption | simp [go_sem, *]); have v1 := kc ⟨w.heap.size, 1, none⟩ (.int .i64 ad) hb (by first | assumption | simp [go_sem, *]); have v2 := kc ⟨w.heap.size + 1, 0, none⟩ (.int .i64 bn) hb (by first | assumption | simp [go_sem, *]); have v3 := kc ⟨w.heap.size + 1, 1, none⟩ (.int .i64 bd) hb (by first | assumption | simp [go_sem, *]); have v4 := kc ⟨w.heap.size + 1 + 1, 0, none⟩ (.int .i64 0) hb (by first | assumption | simp [go_sem, *]); have v5 := kc ⟨w.heap.size + 1 + 1, 1, none⟩ (.int .i64 0) hb (by first | assumption | simp [go_sem, *]); have v6 := kc ⟨bx, 0, none⟩ (.int .u64 xh) hb (by first | assumption | simp [go_sem, *]); have v7 := kc ⟨bx, 1, none⟩ (.int .u64 xl) hb (by first | assumption | simp [go_sem, *]); have v8 := kc ⟨by_, 0, none⟩ (.int .u64 yh) hb (by first | assumption | simp [go_sem, *]); have v9 := kc ⟨by_, 1, none⟩ (.int .u64 yl) hb (by first | assumption | simp [go_sem, *]); have v10 := kc ⟨bd_, 0, none⟩ (.int .u64 dh) hb (by first | assumption | simp [go_sem, *]); have v11 := kc ⟨bd_, 1, none⟩ (.int .u64 dl) hb (by first | assumption | simp [go_sem, *]); have vf0 := kf ⟨w.heap.size + 1 + 1, 0, none⟩ (.int .i64 0) hb (by first | assumption | simp [go_sem, *]) (by first | assumption | simp [go_sem, *]); have vf1 := kf ⟨w.heap.size + 1 + 1, 1, none⟩ (.int .i64 0) hb (by first | assumption | simp [go_sem, *]) (by first | assumption | simp [go_sem, *]); (first | (with_reducible (have zz := newPair hb); obtain ⟨z0, z1, q0, q1, q2, q3⟩ := zz) | (with_reducible (have zz := newPairD hb); obtain ⟨z0, z1, q0, q1, q2, q3⟩ := zz) | (with_reducible (have zz := newPairI hb); obtain ⟨z0, z1, q0, q1, q2, q3⟩ := zz) | skip); have hX := beyond (w := w) (by first | assumption | exact Below.drew (by assumption) | exact Below.alloc (by assumption) (Below.size (by assumption)) _ | exact Below.alloc (Below.drew (by assumption)) (Below.size (by assumption)) _ | exact Below.drew (Below.alloc (by assumption) (Below.size (by assumption)) _)) hb; have l5 : w.heap.size + 1 + 1 < w'.heap.size := World.block_lt_of_cell? _ _ v4; have l2 : ¬ w'.heap.size = w.heap.size := (by omega); have l3 : ¬ w'.heap.size = w.heap.size + 1 := (by omega); have l4 : ¬ w'.heap.size = w.heap.size + 1 + 1 := (by omega)))
        all_goals
          go_wp2
          refine bodyPost_ret (v := trip (tn, td, te)) (by simp [results, Tryz.results112, go_sem, *]) rfl ⟨rfl, ?_⟩
          first | exact set2 (by assumption) (by omega) _ _ | assumption
      · clear HF
        go_wp2_with fail
        refine (HB.out _).mono ?_
        rintro e' w2 ⟨rfl, hb⟩
        have x0_ := kc _ _ hb x0
        have x1_ := kc _ _ hb x1
        have y0_ := kc _ _ hb y0
        have y1_ := kc _ _ hb y1
        have c0_ := kc _ _ hb c0
        have c1_ := kc _ _ hb c1
        have c2_ := kc _ _ hb c2
        have c3_ := kc _ _ hb c3
        have c4_ := kc _ _ hb c4
        have c5_ := kc _ _ hb c5
        have d0_ := kc _ _ hb d0
        have d1_ := kc _ _ hb d1
        have cf0_ := kf _ _ hb c4 cf0
        have cf1_ := kf _ _ hb c5 cf1
        have HB1 := beyond HB2 hb
        clear hb HB2 x0 x1 y0 y1 c0 c1 c2 c3 c4 c5 d0 d1 cf0 cf1 HB
        go_upto_region 8 with (fail)
        go_region_held3 (fun w' => w'.cell? ⟨w.heap.size, 0, none⟩ = some (.int .i64 an) ∧ w'.cell? ⟨w.heap.size + 1, 0, none⟩ = some (.int .i64 bn) ∧ w'.cell? ⟨bx, 0, none⟩ = some (.int .u64 xh) ∧ w'.cell? ⟨bx, 1, none⟩ = some (.int .u64 xl) ∧ w'.cell? ⟨by_, 0, none⟩ = some (.int .u64 yh) ∧ w'.cell? ⟨by_, 1, none⟩ = some (.int .u64 yl) ∧ w'.cell? ⟨bd_, 0, none⟩ = some (.int .u64 dh) ∧ w'.cell? ⟨bd_, 1, none⟩ = some (.int .u64 dl))
          (first | exact ⟨by assumption, by assumption, by assumption, by assumption, by assumption, by assumption, by assumption, by assumption⟩ | go_keep)
          (first
            | (go_at_call 153; refine (HP.out _).mono ?_; rintro e' w' ⟨rfl, hb⟩; have v0 := kc ⟨w.heap.size, 0, none⟩ (.int .i64 an) hb (by first | assumption | simp [go_sem, *]); have v1 := kc ⟨w.heap.size, 1, none⟩ (.int .i64 ad) hb (by first | assumption | simp [go_sem, *]); have v2 := kc ⟨w.heap.size + 1, 0, none⟩ (.int .i64 bn) hb (by first | assumption | simp [go_sem, *]); have v3 := kc ⟨w.heap.size + 1, 1, none⟩ (.int .i64 bd) hb (by first | assumption | simp [go_sem, *]); have v4 := kc ⟨w.heap.size + 1 + 1, 0, none⟩ (.int .i64 0) hb (by first | assumption | simp [go_sem, *]); have v5 := kc ⟨w.heap.size + 1 + 1, 1, none⟩ (.int .i64 0) hb (by first | assumption | simp [go_sem, *]); have v6 := kc ⟨bx, 0, none⟩ (.int .u64 xh) hb (by first | assumption | simp [go_sem, *]); have v7 := kc ⟨bx, 1, none⟩ (.int .u64 xl) hb (by first | assumption | simp [go_sem, *]); have v8 := kc ⟨by_, 0, none⟩ (.int .u64 yh) hb (by first | assumption | simp [go_sem, *]); have v9 := kc ⟨by_, 1, none⟩ (.int .u64 yl) hb (by first | assumption | simp [go_sem, *]); have v10 := kc ⟨bd_, 0, none⟩ (.int .u64 dh) hb (by first | assumption | simp [go_sem, *]); have v11 := kc ⟨bd_, 1, none⟩ (.int .u64 dl) hb (by first | assumption | simp [go_sem, *]); have vf0 := kf ⟨w.heap.size + 1 + 1, 0, none⟩ (.int .i64 0) hb (by first | assumption | simp [go_sem, *]) (by first | assumption | simp [go_sem, *]); have vf1 := kf ⟨w.heap.size + 1 + 1, 1, none⟩ (.int .i64 0) hb (by first | assumption | simp [go_sem, *]) (by first | assumption | simp [go_sem, *]); (first | (with_reducible (have zz := newPair hb); obtain ⟨z0, z1, q0, q1, q2, q3⟩ := zz) | (with_reducible (have zz := newPairD hb); obtain ⟨z0, z1, q0, q1, q2, q3⟩ := zz) | (with_reducible (have zz := newPairI hb); obtain ⟨z0, z1, q0, q1, q2, q3⟩ := zz) | skip); have hX := beyond (w := w) (by first | assumption | exact Below.drew (by assumption) | exact Below.alloc (by assumption) (Below.size (by assumption)) _ | exact Below.alloc (Below.drew (by assumption)) (Below.size (by assumption)) _ | exact Below.drew (Below.alloc (by assumption) (Below.size (by assumption)) _)) hb; have l5 : w.heap.size + 1 + 1 < w'.heap.size := World.block_lt_of_cell? _ _ v4; have l2 : ¬ w'.heap.size = w.heap.size := (by omega); have l3 : ¬ w'.heap.size = w.heap.size + 1 := (by omega); have l4 : ¬ w'.heap.size = w.heap.size + 1 + 1 := (by omega))
            | (go_at_call 133; refine (HH.out _).mono ?_; rintro e' w' ⟨rfl, hb⟩; have v0 := kc ⟨w.heap.size, 0, none⟩ (.int .i64 an) hb (by first | assumption | simp [go_sem, *]); have v1 := kc ⟨w.heap.size, 1, none⟩ (.int .i64 ad) hb (by first | assumption | simp [go_sem, *]); have v2 := kc ⟨w.heap.size + 1, 0, none⟩ (.int .i64 bn) hb (by first | assumption | simp [go_sem, *]); have v3 := kc ⟨w.heap.size + 1, 1, none⟩ (.int .i64 bd) hb (by first | assumption | simp [go_sem, *]); have v4 := kc ⟨w.heap.size + 1 + 1, 0, none⟩ (.int .i64 0) hb (by first | assumption | simp [go_sem, *]); have v5 := kc ⟨w.heap.size + 1 + 1, 1, none⟩ (.int .i64 0) hb (by first | assumption | simp [go_sem, *]); have v6 := kc ⟨bx, 0, none⟩ (.int .u64 xh) hb (by first | assumption | simp [go_sem, *]); have v7 := kc ⟨bx, 1, none⟩ (.int .u64 xl) hb (by first | assumption | simp [go_sem, *]); have v8 := kc ⟨by_, 0, none⟩ (.int .u64 yh) hb (by first | assumption | simp [go_sem, *]); have v9 := kc ⟨by_, 1, none⟩ (.int .u64 yl) hb (by first | assumption | simp [go_sem, *]); have v10 := kc ⟨bd_, 0, none⟩ (.int .u64 dh) hb (by first | assumption | simp [go_sem, *]); have v11 := kc ⟨bd_, 1, none⟩ (.int .u64 dl) hb (by first | assumption | simp [go_sem, *]); have vf0 := kf ⟨w.heap.size + 1 + 1, 0, none⟩ (.int .i64 0) hb (by first | assumption | simp [go_sem, *]) (by first | assumption | simp [go_sem, *]); have vf1 := kf ⟨w.heap.size + 1 + 1, 1, none⟩ (.int .i64 0) hb (by first | assumption | simp [go_sem, *]) (by first | assumption | simp [go_sem, *]); (first | (with_reducible (have zz := newPair hb); obtain ⟨z0, z1, q0, q1, q2, q3⟩ := zz) | (with_reducible (have zz := newPairD hb); obtain ⟨z0, z1, q0, q1, q2, q3⟩ := zz) | (with_reducible (have zz := newPairI hb); obtain ⟨z0, z1, q0, q1, q2, q3⟩ := zz) | skip); have hX := beyond (w := w) (by first | assumption | exact Below.drew (by assumption) | exact Below.alloc (by assumption) (Below.size (by assumption)) _ | exact Below.alloc (Below.drew (by assumption)) (Below.size (by assumption)) _ | exact Below.drew (Below.alloc (by assumption) (Below.size (by assumption)) _)) hb; have l5 : w.heap.size + 1 + 1 < w'.heap.size := World.block_lt_of_cell? _ _ v4; have l2 : ¬ w'.heap.size = w.heap.size := (by omega); have l3 : ¬ w'.heap.size = w.heap.size + 1 := (by omega); have l4 : ¬ w'.heap.size = w.heap.size + 1 + 1 := (by omega)))
        all_goals
          go_wp2
          refine bodyPost_ret (v := trip (tn, td, te)) (by simp [results, Tryz.results112, go_sem, *]) rfl ⟨rfl, ?_⟩
          first | exact set2 (by assumption) (by omega) _ _ | assumption
      · clear HF
        go_wp2_with fail
        refine (HB.out _).mono ?_
        rintro e' w2 ⟨rfl, hb⟩
        have x0_ := kc _ _ hb x0
        have x1_ := kc _ _ hb x1
        have y0_ := kc _ _ hb y0
        have y1_ := kc _ _ hb y1
        have c0_ := kc _ _ hb c0
        have c1_ := kc _ _ hb c1
        have c2_ := kc _ _ hb c2
        have c3_ := kc _ _ hb c3
        have c4_ := kc _ _ hb c4
        have c5_ := kc _ _ hb c5
        have d0_ := kc _ _ hb d0
        have d1_ := kc _ _ hb d1
        have cf0_ := kf _ _ hb c4 cf0
        have cf1_ := kf _ _ hb c5 cf1
        have HB1 := beyond HB2 hb
        clear hb HB2 x0 x1 y0 y1 c0 c1 c2 c3 c4 c5 d0 d1 cf0 cf1 HB
        go_upto_region 7 with (fail)
        go_region_held3 (fun w' => w'.cell? ⟨w.heap.size, 0, none⟩ = some (.int .i64 an) ∧ w'.cell? ⟨w.heap.size + 1, 0, none⟩ = some (.int .i64 bn) ∧ w'.cell? ⟨bx, 0, none⟩ = some (.int .u64 xh) ∧ w'.cell? ⟨bx, 1, none⟩ = some (.int .u64 xl) ∧ w'.cell? ⟨by_, 0, none⟩ = some (.int .u64 yh) ∧ w'.cell? ⟨by_, 1, none⟩ = some (.int .u64 yl) ∧ w'.cell? ⟨bd_, 0, none⟩ = some (.int .u64 dh) ∧ w'.cell? ⟨bd_, 1, none⟩ = some (.int .u64 dl))
          (first | exact ⟨by assumption, by assumption, by assumption, by assumption, by assumption, by assumption, by assumption, by assumption⟩ | go_keep)
          (first
            | (go_at_call 153; refine (HP.out _).mono ?_; rintro e' w' ⟨rfl, hb⟩; have v0 := kc ⟨w.heap.size, 0, none⟩ (.int .i64 an) hb (by first | assumption | simp [go_sem, *]); have v1 := kc ⟨w.heap.size, 1, none⟩ (.int .i64 ad) hb (by first | assumption | simp [go_sem, *]); have v2 := kc ⟨w.heap.size + 1, 0, none⟩ (.int .i64 bn) hb (by first | assumption | simp [go_sem, *]); have v3 := kc ⟨w.heap.size + 1, 1, none⟩ (.int .i64 bd) hb (by first | assumption | simp [go_sem, *]); have v4 := kc ⟨w.heap.size + 1 + 1, 0, none⟩ (.int .i64 0) hb (by first | assumption | simp [go_sem, *]); have v5 := kc ⟨w.heap.size + 1 + 1, 1, none⟩ (.int .i64 0) hb (by first | assumption | simp [go_sem, *]); have v6 := kc ⟨bx, 0, none⟩ (.int .u64 xh) hb (by first | assumption | simp [go_sem, *]); have v7 := kc ⟨bx, 1, none⟩ (.int .u64 xl) hb (by first | assumption | simp [go_sem, *]); have v8 := kc ⟨by_, 0, none⟩ (.int .u64 yh) hb (by first | assumption | simp [go_sem, *]); have v9 := kc ⟨by_, 1, none⟩ (.int .u64 yl) hb (by first | assumption | simp [go_sem, *]); have v10 := kc ⟨bd_, 0, none⟩ (.int .u64 dh) hb (by first | assumption | simp [go_sem, *]); have v11 := kc ⟨bd_, 1, none⟩ (.int .u64 dl) hb (by first | assumption | simp [go_sem, *]); have vf0 := kf ⟨w.heap.size + 1 + 1, 0, none⟩ (.int .i64 0) hb (by first | assumption | simp [go_sem, *]) (by first | assumption | simp [go_sem, *]); have vf1 := kf ⟨w.heap.size + 1 + 1, 1, none⟩ (.int .i64 0) hb (by first | assumption | simp [go_sem, *]) (by first | assumption | simp [go_sem, *]); (first | (with_reducible (have zz := newPair hb); obtain ⟨z0, z1, q0, q1, q2, q3⟩ := zz) | (with_reducible (have zz := newPairD hb); obtain ⟨z0, z1, q0, q1, q2, q3⟩ := zz) | (with_reducible (have zz := newPairI hb); obtain ⟨z0, z1, q0, q1, q2, q3⟩ := zz) | skip); have hX := beyond (w := w) (by first | assumption | exact Below.drew (by assumption) | exact Below.alloc (by assumption) (Below.size (by assumption)) _ | exact Below.alloc (Below.drew (by assumption)) (Below.size (by assumption)) _ | exact Below.drew (Below.alloc (by assumption) (Below.size (by assumption)) _)) hb; have l5 : w.heap.size + 1 + 1 < w'.heap.size := World.block_lt_of_cell? _ _ v4; have l2 : ¬ w'.heap.size = w.heap.size := (by omega); have l3 : ¬ w'.heap.size = w.heap.size + 1 := (by omega); have l4 : ¬ w'.heap.size = w.heap.size + 1 + 1 := (by omega))
            | (go_at_call 133; refine (HH.out _).mono ?_; rintro e' w' ⟨rfl, hb⟩; have v0 := kc ⟨w.heap.size, 0, none⟩ (.int .i64 an) hb (by first | assumption | simp [go_sem, *]); have v1 := kc ⟨w.heap.size, 1, none⟩ (.int .i64 ad) hb (by first | assumption | simp [go_sem, *]); have v2 := kc ⟨w.heap.size + 1, 0, none⟩ (.int .i64 bn) hb (by first | assumption | simp [go_sem, *]); have v3 := kc ⟨w.heap.size + 1, 1, none⟩ (.int .i64 bd) hb (by first | assumption | simp [go_sem, *]); have v4 := kc ⟨w.heap.size + 1 + 1, 0, none⟩ (.int .i64 0) hb (by first | assumption | simp [go_sem, *]); have v5 := kc ⟨w.heap.size + 1 + 1, 1, none⟩ (.int .i64 0) hb (by first | assumption | simp [go_sem, *]); have v6 := kc ⟨bx, 0, none⟩ (.int .u64 xh) hb (by first | assumption | simp [go_sem, *]); have v7 := kc ⟨bx, 1, none⟩ (.int .u64 xl) hb (by first | assumption | simp [go_sem, *]); have v8 := kc ⟨by_, 0, none⟩ (.int .u64 yh) hb (by first | assumption | simp [go_sem, *]); have v9 := kc ⟨by_, 1, none⟩ (.int .u64 yl) hb (by first | assumption | simp [go_sem, *]); have v10 := kc ⟨bd_, 0, none⟩ (.int .u64 dh) hb (by first | assumption | simp [go_sem, *]); have v11 := kc ⟨bd_, 1, none⟩ (.int .u64 dl) hb (by first | assumption | simp [go_sem, *]); have vf0 := kf ⟨w.heap.size + 1 + 1, 0, none⟩ (.int .i64 0) hb (by first | assumption | simp [go_sem, *]) (by first | assumption | simp [go_sem, *]); have vf1 := kf ⟨w.heap.size + 1 + 1, 1, none⟩ (.int .i64 0) hb (by first | assumption | simp [go_sem, *]) (by first | assumption | simp [go_sem, *]); (first | (with_reducible (have zz := newPair hb); obtain ⟨z0, z1, q0, q1, q2, q3⟩ := zz) | (with_reducible (have zz := newPairD hb); obtain ⟨z0, z1, q0, q1, q2, q3⟩ := zz) | (with_reducible (have zz := newPairI hb); obtain ⟨z0, z1, q0, q1, q2, q3⟩ := zz) | skip); have hX := beyond (w := w) (by first | assumption | exact Below.drew (by assumption) | exact Below.alloc (by assumption) (Below.size (by assumption)) _ | exact Below.alloc (Below.drew (by assumption)) (Below.size (by assumption)) _ | exact Below.drew (Below.alloc (by assumption) (Below.size (by assumption)) _)) hb; have l5 : w.heap.size + 1 + 1 < w'.heap.size := World.block_lt_of_cell? _ _ v4; have l2 : ¬ w'.heap.size = w.heap.size := (by omega); have l3 : ¬ w'.heap.size = w.heap.size + 1 := (by omega); have l4 : ¬ w'.heap.size = w.heap.size + 1 + 1 := (by omega)))
        all_goals
          go_wp2
          refine bodyPost_ret (v := trip (tn, td, te)) (by simp [results, Tryz.results112, go_sem, *]) rfl ⟨rfl, ?_⟩
          first | exact set2 (by assumption) (by omega) _ _ | assumption
      · clear HF
        go_wp2_with fail
        refine (HB.out _).mono ?_
        rintro e' w2 ⟨rfl, hb⟩
        have x0_ := kc _ _ hb x0
        have x1_ := kc _ _ hb x1
        have y0_ := kc _ _ hb y0
        have y1_ := kc _ _ hb y1
        have c0_ := kc _ _ hb c0
        have c1_ := kc _ _ hb c1
        have c2_ := kc _ _ hb c2
        have c3_ := kc _ _ hb c3
        have c4_ := kc _ _ hb c4
        have c5_ := kc _ _ hb c5
        have d0_ := kc _ _ hb d0
        have d1_ := kc _ _ hb d1
        have cf0_ := kf _ _ hb c4 cf0
        have cf1_ := kf _ _ hb c5 cf1
        have HB1 := beyond HB2 hb
        clear hb HB2 x0 x1 y0 y1 c0 c1 c2 c3 c4 c5 d0 d1 cf0 cf1 HB
        go_upto_region 8 with (fail)
        go_region_held3 (fun w' => w'.cell? ⟨w.heap.size, 0, none⟩ = some (.int .i64 an) ∧ w'.cell? ⟨w.heap.size + 1, 0, none⟩ = some (.int .i64 bn) ∧ w'.cell? ⟨bx, 0, none⟩ = some (.int .u64 xh) ∧ w'.cell? ⟨bx, 1, none⟩ = some (.int .u64 xl) ∧ w'.cell? ⟨by_, 0, none⟩ = some (.int .u64 yh) ∧ w'.cell? ⟨by_, 1, none⟩ = some (.int .u64 yl) ∧ w'.cell? ⟨bd_, 0, none⟩ = some (.int .u64 dh) ∧ w'.cell? ⟨bd_, 1, none⟩ = some (.int .u64 dl))
          (first | exact ⟨by assumption, by assumption, by assumption, by assumption, by assumption, by assumption, by assumption, by assumption⟩ | go_keep)
          (first
            | (go_at_call 153; refine (HP.out _).mono ?_; rintro e' w' ⟨rfl, hb⟩; have v0 := kc ⟨w.heap.size, 0, none⟩ (.int .i64 an) hb (by first | assumption | simp [go_sem, *]); have v1 := kc ⟨w.heap.size, 1, none⟩ (.int .i64 ad) hb (by first | assumption | simp [go_sem, *]); have v2 := kc ⟨w.heap.size + 1, 0, none⟩ (.int .i64 bn) hb (by first | assumption | simp [go_sem, *]); have v3 := kc ⟨w.heap.size + 1, 1, none⟩ (.int .i64 bd) hb (by first | assumption | simp [go_sem, *]); have v4 := kc ⟨w.heap.size + 1 + 1, 0, none⟩ (.int .i64 0) hb (by first | assumption | simp [go_sem, *]); have v5 := kc ⟨w.heap.size + 1 + 1, 1, none⟩ (.int .i64 0) hb (by first | assumption | simp [go_sem, *]); have v6 := kc ⟨bx, 0, none⟩ (.int .u64 xh) hb (by first | assumption | simp [go_sem, *]); have v7 := kc ⟨bx, 1, none⟩ (.int .u64 xl) hb (by first | assumption | simp [go_sem, *]); have v8 := kc ⟨by_, 0, none⟩ (.int .u64 yh) hb (by first | assumption | simp [go_sem, *]); have v9 := kc ⟨by_, 1, none⟩ (.int .u64 yl) hb (by first | assumption | simp [go_sem, *]); have v10 := kc ⟨bd_, 0, none⟩ (.int .u64 dh) hb (by first | assumption | simp [go_sem, *]); have v11 := kc ⟨bd_, 1, none⟩ (.int .u64 dl) hb (by first | assumption | simp [go_sem, *]); have vf0 := kf ⟨w.heap.size + 1 + 1, 0, none⟩ (.int .i64 0) hb (by first | assumption | simp [go_sem, *]) (by first | assumption | simp [go_sem, *]); have vf1 := kf ⟨w.heap.size + 1 + 1, 1, none⟩ (.int .i64 0) hb (by first | assumption | simp [go_sem, *]) (by first | assumption | simp [go_sem, *]); (first | (with_reducible (have zz := newPair hb); obtain ⟨z0, z1, q0, q1, q2, q3⟩ := zz) | (with_reducible (have zz := newPairD hb); obtain ⟨z0, z1, q0, q1, q2, q3⟩ := zz) | (with_reducible (have zz := newPairI hb); obtain ⟨z0, z1, q0, q1, q2, q3⟩ := zz) | skip); have hX := beyond (w := w) (by first | assumption | exact Below.drew (by assumption) | exact Below.alloc (by assumption) (Below.size (by assumption)) _ | exact Below.alloc (Below.drew (by assumption)) (Below.size (by assumption)) _ | exact Below.drew (Below.alloc (by assumption) (Below.size (by assumption)) _)) hb; have l5 : w.heap.size + 1 + 1 < w'.heap.size := World.block_lt_of_cell? _ _ v4; have l2 : ¬ w'.heap.size = w.heap.size := (by omega); have l3 : ¬ w'.heap.size = w.heap.size + 1 := (by omega); have l4 : ¬ w'.heap.size = w.heap.size + 1 + 1 := (by omega))
            | (go_at_call 133; refine (HH.out _).mono ?_; rintro e' w' ⟨rfl, hb⟩; have v0 := kc ⟨w.heap.size, 0, none⟩ (.int .i64 an) hb (by first | assumption | simp [go_sem, *]); have v1 := kc ⟨w.heap.size, 1, none⟩ (.int .i64 ad) hb (by first | assumption | simp [go_sem, *]); have v2 := kc ⟨w.heap.size + 1, 0, none⟩ (.int .i64 bn) hb (by first | assumption | simp [go_sem, *]); have v3 := kc ⟨w.heap.size + 1, 1, none⟩ (.int .i64 bd) hb (by first | assumption | simp [go_sem, *]); have v4 := kc ⟨w.heap.size + 1 + 1, 0, none⟩ (.int .i64 0) hb (by first | assumption | simp [go_sem, *]); have v5 := kc ⟨w.heap.size + 1 + 1, 1, none⟩ (.int .i64 0) hb (by first | assumption | simp [go_sem, *]); have v6 := kc ⟨bx, 0, none⟩ (.int .u64 xh) hb (by first | assumption | simp [go_sem, *]); have v7 := kc ⟨bx, 1, none⟩ (.int .u64 xl) hb (by first | assumption | simp [go_sem, *]); have v8 := kc ⟨by_, 0, none⟩ (.int .u64 yh) hb (by first | assumption | simp [go_sem, *]); have v9 := kc ⟨by_, 1, none⟩ (.int .u64 yl) hb (by first | assumption | simp [go_sem, *]); have v10 := kc ⟨bd_, 0, none⟩ (.int .u64 dh) hb (by first | assumption | simp [go_sem, *]); have v11 := kc ⟨bd_, 1, none⟩ (.int .u64 dl) hb (by first | assumption | simp [go_sem, *]); have vf0 := kf ⟨w.heap.size + 1 + 1, 0, none⟩ (.int .i64 0) hb (by first | assumption | simp [go_sem, *]) (by first | assumption | simp [go_sem, *]); have vf1 := kf ⟨w.heap.size + 1 + 1, 1, none⟩ (.int .i64 0) hb (by first | assumption | simp [go_sem, *]) (by first | assumption | simp [go_sem, *]); (first | (with_reducible (have zz := newPair hb); obtain ⟨z0, z1, q0, q1, q2, q3⟩ := zz) | (with_reducible (have zz := newPairD hb); obtain ⟨z0, z1, q0, q1, q2, q3⟩ := zz) | (with_reducible (have zz := newPairI hb); obtain ⟨z0, z1, q0, q1, q2, q3⟩ := zz) | skip); have hX := beyond (w := w) (by first | assumption | exact Below.drew (by assumption) | exact Below.alloc (by assumption) (Below.size (by assumption)) _ | exact Below.alloc (Below.drew (by assumption)) (Below.size (by assumption)) _ | exact Below.drew (Below.alloc (by assumption) (Below.size (by assumption)) _)) hb; have l5 : w.heap.size + 1 + 1 < w'.heap.size := World.block_lt_of_cell? _ _ v4; have l2 : ¬ w'.heap.size = w.heap.size := (by omega); have l3 : ¬ w'.heap.size = w.heap.size + 1 := (by omega); have l4 : ¬ w'.heap.size = w.heap.size + 1 + 1 := (by omega)))
        all_goals
          go_wp2
          refine bodyPost_ret (v := trip (tn, td, te)) (by simp [results, Tryz.results112, go_sem, *]) rfl ⟨rfl, ?_⟩
          first | exact set2 (by assumption) (by omega) _ _ | assumption
end Go.Proofs.YtondgencdcimjaaGreat

/-
  The contracts of the document's difference of fractions, by signs.
-/
namespace Go.Proofs.YtondgencdcimjaaGreat
open Go.RowKit Go.Shelf
set_option linter.unusedVariables false
end Go.Proofs.YtondgencdcimjaaGreat

/-
  The contracts of the document's Add, Sub, Mul and Div of fractions, by what they call.
-/
namespace Go.Proofs.YtondgencdcimjaaGreat
open Go.RowKit Go.Shelf
set_option linter.unusedVariables false
abbrev AskY (n d : Int) (r : Bool) : Prop := ∀ w, Calls Tryz.prog 39 #[rv n d] w fun e w' => e = .returned (.bool r) ∧ Below w.heap.size w w'
theorem xadd_not1 (an ad bn bd : Int) (w : World) (HR : Hid (AskY an ad false)) :
    Calls Tryz.prog 40 #[rv an ad, rv bn bd] w fun e w' => e = .returned (.tuple #[rv 0 0, .int .i64 7]) ∧ Below w.heap.size w w' := by
  have n1 : ¬ w.heap.size = w.heap.size + 1 + 1 := by omega
  have n2 : ¬ w.heap.size + 1 + 1 = w.heap.size := by omega
  go_enter Tryz.func40, Tryz.ntmps40
  go_wp2_with fail
  refine (HR.out _).mono ?_
  rintro e w1 ⟨rfl, hb⟩
  have s0 := kc ⟨w.heap.size, 0, none⟩ (.int .i64 an) hb (by first | assumption | simp [go_sem, *])
  have s1 := kc ⟨w.heap.size, 1, none⟩ (.int .i64 ad) hb (by first | assumption | simp [go_sem, *])
  have s2 := kc ⟨w.heap.size + 1, 0, none⟩ (.int .i64 bn) hb (by first | assumption | simp [go_sem, *])
  have s3 := kc ⟨w.heap.size + 1, 1, none⟩ (.int .i64 bd) hb (by first | assumption | simp [go_sem, *])
  have s4 := kc ⟨w.heap.size + 1 + 1, 0, none⟩ (.int .i64 0) hb (by first | assumption | simp [go_sem, *])
  have s5 := kc ⟨w.heap.size + 1 + 1, 1, none⟩ (.int .i64 0) hb (by first | assumption | simp [go_sem, *])
  have sf0 := kf ⟨w.heap.size + 1 + 1, 0, none⟩ (.int .i64 0) hb (by first | assumption | simp [go_sem, *]) (by first | assumption | simp [go_sem, *])
  have sf1 := kf ⟨w.heap.size + 1 + 1, 1, none⟩ (.int .i64 0) hb (by first | assumption | simp [go_sem, *]) (by first | assumption | simp [go_sem, *])
  have hB := beyond (three w _ _ _) hb
  clear hb
  go_wp2_with fail
  refine bodyPost_ret (v := .tuple #[rv 0 0, .int .i64 7]) (by simp [results, Tryz.results40, go_sem, *]) rfl ⟨rfl, ?_⟩
  first | exact hB | exact set2 hB (by omega) _ _
theorem xadd_not2 (an ad bn bd : Int) (w : World) (HR : Hid (AskY an ad true)) (HR2 : Hid (AskY bn bd false)) :
    Calls Tryz.prog 40 #[rv an ad, rv bn bd] w fun e w' => e = .returned (.tuple #[rv 0 0, .int .i64 7]) ∧ Below w.heap.size w w' := by
  have n1 : ¬ w.heap.size = w.heap.size + 1 + 1 := by omega
  have n2 : ¬ w.heap.size + 1 + 1 = w.heap.size := by omega
  go_enter Tryz.func40, Tryz.ntmps40
  go_wp2_with fail
  refine (HR.out _).mono ?_
  rintro e w1 ⟨rfl, hb⟩
  have s0 := kc ⟨w.heap.size, 0, none⟩ (.int .i64 an) hb (by first | assumption | simp [go_sem, *])
  have s1 := kc ⟨w.heap.size, 1, none⟩ (.int .i64 ad) hb (by first | assumption | simp [go_sem, *])
  have s2 := kc ⟨w.heap.size + 1, 0, none⟩ (.int .i64 bn) hb (by first | assumption | simp [go_sem, *])
  have s3 := kc ⟨w.heap.size + 1, 1, none⟩ (.int .i64 bd) hb (by first | assumption | simp [go_sem, *])
  have s4 := kc ⟨w.heap.size + 1 + 1, 0, none⟩ (.int .i64 0) hb (by first | assumption | simp [go_sem, *])
  have s5 := kc ⟨w.heap.size + 1 + 1, 1, none⟩ (.int .i64 0) hb (by first | assumption | simp [go_sem, *])
  have sf0 := kf ⟨w.heap.size + 1 + 1, 0, none⟩ (.int .i64 0) hb (by first | assumption | simp [go_sem, *]) (by first | assumption | simp [go_sem, *])
  have sf1 := kf ⟨w.heap.size + 1 + 1, 1, none⟩ (.int .i64 0) hb (by first | assumption | simp [go_sem, *]) (by first | assumption | simp [go_sem, *])
  have hB := beyond (three w _ _ _) hb
  clear hb
  go_wp2_with fail
  refine (HR2.out _).mono ?_
  rintro e w2 ⟨rfl, hb2⟩
  have u0 := kc ⟨w.heap.size, 0, none⟩ (.int .i64 an) hb2 (by first | assumption | simp [go_sem, *])
  have u1 := kc ⟨w.heap.size, 1, none⟩ (.int .i64 ad) hb2 (by first | assumption | simp [go_sem, *])
  have u2 := kc ⟨w.heap.size + 1, 0, none⟩ (.int .i64 bn) hb2 (by first | assumption | simp [go_sem, *])
  have u3 := kc ⟨w.heap.size + 1, 1, none⟩ (.int .i64 bd) hb2 (by first | assumption | simp [go_sem, *])
  have u4 := kc ⟨w.heap.size + 1 + 1, 0, none⟩ (.int .i64 0) hb2 (by first | assumption | simp [go_sem, *])
  have u5 := kc ⟨w.heap.size + 1 + 1, 1, none⟩ (.int .i64 0) hb2 (by first | assumption | simp [go_sem, *])
  have uf0 := kf ⟨w.heap.size + 1 + 1, 0, none⟩ (.int .i64 0) hb2 (by first | assumption | simp [go_sem, *]) (by first | assumption | simp [go_sem, *])
  have uf1 := kf ⟨w.heap.size + 1 + 1, 1, none⟩ (.int .i64 0) hb2 (by first | assumption | simp [go_sem, *]) (by first | assumption | simp [go_sem, *])
  have hB2 := beyond hB hb2
  clear hb2 hB s0 s1 s2 s3 s4 s5 sf0 sf1
  go_wp2_with fail
  refine bodyPost_ret (v := .tuple #[rv 0 0, .int .i64 7]) (by simp [results, Tryz.results40, go_sem, *]) rfl ⟨rfl, ?_⟩
  first | exact hB2 | exact set2 hB2 (by omega) _ _
set_option maxRecDepth 100000 in
set_option maxHeartbeats 4000000 in
theorem xadd_yes (an ad bn bd : Int) (t : Int × Int × Int) (w : World) (HR : Hid (AskY an ad true)) (HR2 : Hid (AskY bn bd true))
    (HS : Hid (∀ w, Calls Tryz.prog 112 #[rv an ad, rv bn bd] w fun e w' => e = .returned (trip t) ∧ Below w.heap.size w w')) :
    Calls Tryz.prog 40 #[rv an ad, rv bn bd] w fun e w' => e = .returned (trip t) ∧ Below w.heap.size w w' := by
  obtain ⟨tn, td, te⟩ := t
  have n1 : ¬ w.heap.size = w.heap.size + 1 + 1 := by omega
  have n2 : ¬ w.heap.size + 1 + 1 = w.heap.size := by omega
  go_enter Tryz.func40, Tryz.ntmps40
  go_wp2_with fail
  refine (HR.out _).mono ?_
  rintro e w1 ⟨rfl, hb⟩
  have s0 := kc ⟨w.heap.size, 0, none⟩ (.int .i64 an) hb (by first | assumption | simp [go_sem, *])
  have s1 := kc ⟨w.heap.size, 1, none⟩ (.int .i64 ad) hb (by first | assumption | simp [go_sem, *])
  have s2 := kc ⟨w.heap.size + 1, 0, none⟩ (.int .i64 bn) hb (by first | assumption | simp [go_sem, *])
  have s3 := kc ⟨w.heap.size + 1, 1, none⟩ (.int .i64 bd) hb (by first | assumption | simp [go_sem, *])
  have s4 := kc ⟨w.heap.size + 1 + 1, 0, none⟩ (.int .i64 0) hb (by first | assumption | simp [go_sem, *])
  have s5 := kc ⟨w.heap.size + 1 + 1, 1, none⟩ (.int .i64 0) hb (by first | assumption | simp [go_sem, *])
  have sf0 := kf ⟨w.heap.size + 1 + 1, 0, none⟩ (.int .i64 0) hb (by first | assumption | simp [go_sem, *]) (by first | assumption | simp [go_sem, *])
  have sf1 := kf ⟨w.heap.size + 1 + 1, 1, none⟩ (.int .i64 0) hb (by first | assumption | simp [go_sem, *]) (by first | assumption | simp [go_sem, *])
  have hB := beyond (three w _ _ _) hb
  clear hb
  go_wp2_with fail
  refine (HR2.out _).mono ?_
  rintro e w2 ⟨rfl, hb2⟩
  have u0 := kc ⟨w.heap.size, 0, none⟩ (.int .i64 an) hb2 (by first | assumption | simp [go_sem, *])
  have u1 := kc ⟨w.heap.size, 1, none⟩ (.int .i64 ad) hb2 (by first | assumption | simp [go_sem, *])
  have u2 := kc ⟨w.heap.size + 1, 0, none⟩ (.int .i64 bn) hb2 (by first | assumption | simp [go_sem, *])
  have u3 := kc ⟨w.heap.size + 1, 1, none⟩ (.int .i64 bd) hb2 (by first | assumption | simp [go_sem, *])
  have u4 := kc ⟨w.heap.size + 1 + 1, 0, none⟩ (.int .i64 0) hb2 (by first | assumption | simp [go_sem, *])
  have u5 := kc ⟨w.heap.size + 1 + 1, 1, none⟩ (.int .i64 0) hb2 (by first | assumption | simp [go_sem, *])
  have uf0 := kf ⟨w.heap.size + 1 + 1, 0, none⟩ (.int .i64 0) hb2 (by first | assumption | simp [go_sem, *]) (by first | assumption | simp [go_sem, *])
  have uf1 := kf ⟨w.heap.size + 1 + 1, 1, none⟩ (.int .i64 0) hb2 (by first | assumption | simp [go_sem, *]) (by first | assumption | simp [go_sem, *])
  have hB2 := beyond hB hb2
  clear hb2 hB s0 s1 s2 s3 s4 s5 sf0 sf1
  go_wp2_with fail
  refine (HS.out _).mono ?_
  rintro e w3 ⟨rfl, hb3⟩
  have v0 := kc ⟨w.heap.size + 1 + 1, 0, none⟩ (.int .i64 0) hb3 u4
  have vf0 := kf ⟨w.heap.size + 1 + 1, 0, none⟩ (.int .i64 0) hb3 u4 uf0
  have v1 := kc ⟨w.heap.size + 1 + 1, 1, none⟩ (.int .i64 0) hb3 u5
  have vf1 := kf ⟨w.heap.size + 1 + 1, 1, none⟩ (.int .i64 0) hb3 u5 uf1
  have hB3 := beyond hB2 hb3
  clear hb3 hB2 u0 u1 u2 u3 u4 u5 uf0 uf1
  go_wp2_with fail
  refine bodyPost_ret (v := trip (tn, td, te)) (by simp [results, Tryz.results40, go_sem, *]) rfl ⟨rfl, ?_⟩
  first | exact hB3 | exact set2 hB3 (by omega) _ _
end Go.Proofs.YtondgencdcimjaaGreat
