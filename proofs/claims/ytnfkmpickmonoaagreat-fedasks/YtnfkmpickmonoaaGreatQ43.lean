/-
  The contracts of the document's fractions (gnomonref02): size, below, plus, minus, divide.
-/
import Derived.Test.YtnfkmpickmonoaaGreatQ38
namespace Go.Proofs.YtnfkmpickmonoaaGreat
open Go.RowKit Go.Shelf
set_option linter.unusedVariables false
theorem xsize_any (n : Int) (w : World) (h0 : -9223372036854775808 ≤ n) (h1 : n ≤ 9223372036854775807) :
    Calls Tryz.prog 118 #[.int .i64 n] w fun e w' => e = .returned (.int .u64 (sz n)) ∧ w' = w := by
  by_cases h : n < 0
  · have e : sz n = -n := by simp [sz, h]
    rw [e]
    have E := hideR (sz_neg_eq n h h0)
    clear e
    go_enter Tryz.func118, Tryz.ntmps118
    go_wp2
    go_ret
    exact ⟨retI E.out, rfl⟩
  · have e : sz n = n := by simp [sz, h]
    rw [e]
    have E := hideR (sz_pos_eq n (by omega) h1)
    clear e
    go_enter Tryz.func118, Tryz.ntmps118
    go_wp2
    go_ret
    exact ⟨retI (by first | exact E.out | rfl), rfl⟩

set_option maxHeartbeats 400000 in
theorem xminus_raw (ah al bh bl : Int) (w : World) (a0 : 0 ≤ ah) (a1 : 0 ≤ al) (b0 : 0 ≤ bh) (b1 : 0 ≤ bl) (b2 : bh ≤ 18446744073709551615) (b3 : bl ≤ 18446744073709551615) (k0 : 0 ≤ bw al bl) (k1 : bw al bl ≤ 1) :
    Calls Tryz.prog 148 #[.agg #[.int .u64 ah, .int .u64 al], .agg #[.int .u64 bh, .int .u64 bl]] w fun e w' => e = .returned (.agg #[.int .u64 (sb ah bh (bw al bl)), .int .u64 (sb al bl 0)]) ∧ Below w.heap.size w w' := by
  go_enter Tryz.func148, Tryz.ntmps148
  go_wp2_with (first | simp only [sub64_0 al bl a1 b1 b3] | simp only [sub64_c ah bh _ a0 b0 b2 k0 k1])
  exact bodyPost_ret (v := .agg #[.int .u64 (sb ah bh (bw al bl)), .int .u64 (sb al bl 0)]) (by simp [results, Tryz.results148, go_sem]) rfl ⟨rfl, three _ _ _ _⟩
theorem xbelow_lt (a b c d : Int) (w : World) (h : a < c) :
    Calls Tryz.prog 138 #[.agg #[.int .u64 a, .int .u64 b], .agg #[.int .u64 c, .int .u64 d]] w fun e w' => e = .returned (.bool true) ∧ Below w.heap.size w w' := by
  go_enter Tryz.func138, Tryz.ntmps138
  go_wp2
  go_ret
  exact ⟨rfl, two _ _ _⟩
theorem xbelow_gt (a b c d : Int) (w : World) (h : c < a) :
    Calls Tryz.prog 138 #[.agg #[.int .u64 a, .int .u64 b], .agg #[.int .u64 c, .int .u64 d]] w fun e w' => e = .returned (.bool false) ∧ Below w.heap.size w w' := by
  have h1 : decide (a < c) = false := by simp; omega
  have h2 : (a == c) = false := by simp; omega
  go_enter Tryz.func138, Tryz.ntmps138
  go_wp2
  go_ret
  exact ⟨rfl, two _ _ _⟩
theorem xbelow_eq (a b d : Int) (w : World) :
    Calls Tryz.prog 138 #[.agg #[.int .u64 a, .int .u64 b], .agg #[.int .u64 a, .int .u64 d]] w fun e w' => e = .returned (.bool (decide (b < d))) ∧ Below w.heap.size w w' := by
  have h1 : decide (a < a) = false := by simp
  go_enter Tryz.func138, Tryz.ntmps138
  go_wp2
  go_ret
  exact ⟨rfl, two _ _ _⟩
theorem xbelow_any (M N : Int) (w : World) :
    Calls Tryz.prog 138 #[wv M, wv N] w fun e w' => e = .returned (.bool (decide (M < N))) ∧ Below w.heap.size w w' := by
  have k1 : hiW M < hiW N → M < N := by unfold hiW; omega
  have k2 : hiW M = hiW N → (M < N ↔ loW M < loW N) := by unfold hiW loW; omega
  have k3 : hiW N < hiW M → ¬ M < N := by unfold hiW; omega
  by_cases c1 : hiW M < hiW N
  · have e : decide (M < N) = true := by simpa using k1 c1
    rw [e]
    exact xbelow_lt _ _ _ _ w c1
  · by_cases c2 : hiW N < hiW M
    · have e : decide (M < N) = false := by simpa using k3 c2
      rw [e]
      exact xbelow_gt _ _ _ _ w c2
    · have c3 : hiW M = hiW N := by omega
      have e : decide (M < N) = decide (loW M < loW N) := decide_eq_decide.2 (k2 c3)
      have g := xbelow_eq (hiW M) (loW M) (loW N) w
      rw [e]
      simp only [wv]
      rw [← c3]
      exact g
theorem xminus_any (M N : Int) (w : World) (hM : U128 M) (hN : U128 N) :
    Calls Tryz.prog 148 #[wv M, wv N] w fun e w' => e = .returned (wv ((M - N) % 340282366920938463463374607431768211456)) ∧ Below w.heap.size w w' := by
  obtain ⟨m0, m1⟩ := hi_bd hM
  obtain ⟨n0, n1⟩ := hi_bd hN
  obtain ⟨p0, p1⟩ := lo_bd M
  obtain ⟨q0, q1⟩ := lo_bd N
  have c := xminus_raw (hiW M) (loW M) (hiW N) (loW N) w m0 p0 n0 q0 n1 q1 (by unfold bw; split <;> decide) (by unfold bw; split <;> decide)
  have e : Value.agg #[.int .u64 (sb (hiW M) (hiW N) (bw (loW M) (loW N))), .int .u64 (sb (loW M) (loW N) 0)] = wv ((M - N) % 340282366920938463463374607431768211456) := by
    obtain ⟨h0, h1⟩ := hM
    obtain ⟨g0, g1⟩ := hN
    apply wv_mk
    · unfold sb bw hiW loW; split <;> omega
    · unfold sb loW; omega
  rw [e] at c
  exact c
theorem or_bit (y b : Int) (y0 : 0 ≤ y) (b0 : 0 ≤ b) (b1 : b ≤ 1) (h : 2 * y ≤ 18446744073709551614) : bits BinOp.or IntKind.u64 (2 * y) b = 2 * y + b := by
  obtain ⟨a, rfl⟩ := Int.eq_ofNat_of_zero_le y0
  obtain ⟨c, rfl⟩ := Int.eq_ofNat_of_zero_le b0
  have h := bits_or_u64_nat (2 * a) c (by omega) (by omega)
  have e : 2 * a ||| c = 2 * a + c := by
    have := Nat.two_pow_add_eq_or_of_lt (i := 1) (b := c) (by omega) a
    simpa using this.symm
  rw [e] at h
  have h' : bits .or .u64 (2 * (a : Int)) (c : Int) = ((2 * a + c : Nat) : Int) := h
  rw [h']
  omega
theorem and_one6 (x : Int) (h0 : 0 ≤ x) (h1 : x ≤ 18446744073709551615) : bits BinOp.and IntKind.u64 x 1 = x % 2 := by
  obtain ⟨a, rfl⟩ := Int.eq_ofNat_of_zero_le h0
  have h := bits_and_u64_nat a 1 (by omega) (by omega)
  rw [Nat.and_one_is_mod] at h
  have h' : bits .and .u64 (a : Int) 1 = ((a % 2 : Nat) : Int) := h
  rw [h']
  omega
/-- The digit at a place of a number of two words. -/
theorem digit_hi (N : Int) (j : Nat) (h : 64 ≤ j) : hiW N / 2 ^ (j - 64) % 2 = N / 2 ^ j % 2 := by
  unfold hiW
  have e : (2 : Int) ^ j = 18446744073709551616 * 2 ^ (j - 64) := by
    have : j = 64 + (j - 64) := by omega
    rw [this, Int.pow_add, Nat.add_sub_cancel_left]
    rfl
  rw [e, Int.ediv_ediv_of_nonneg (by decide)]
theorem digit_lo (N : Int) (j : Nat) (h : j < 64) : loW N / 2 ^ (j % 64) % 2 = N / 2 ^ j % 2 := by
  rw [Nat.mod_eq_of_lt h]
  unfold loW
  have e : (18446744073709551616 : Int) = 2 ^ j * (2 * 2 ^ (63 - j)) := by
    have e1 : (18446744073709551616 : Int) = 2 ^ (j + (1 + (63 - j))) := by
      have : j + (1 + (63 - j)) = 64 := by omega
      rw [this]
      rfl
    rw [e1, Int.pow_add, Int.pow_add]
    rfl
  have p : (0 : Int) < 2 ^ j := Int.pow_pos (by decide)
  have d := Int.mul_ediv_add_emod N 18446744073709551616
  have k : N / 2 ^ j = N % 18446744073709551616 / 2 ^ j + 2 * 2 ^ (63 - j) * (N / 18446744073709551616) := by
    have : N = N % 18446744073709551616 + 2 ^ j * (2 * 2 ^ (63 - j) * (N / 18446744073709551616)) := by
      rw [← Int.mul_assoc, ← e]
      omega
    conv => lhs; rw [this]
    rw [Int.add_mul_ediv_left _ _ (by omega)]
  rw [k, Int.mul_assoc, Int.add_mul_emod_self_left]
/-- One digit more. -/
theorem digit_more (N : Int) (j : Nat) : N / 2 ^ j = 2 * (N / 2 ^ (j + 1)) + N / 2 ^ j % 2 := by
  have e : N / 2 ^ (j + 1) = N / 2 ^ j / 2 := by
    rw [Int.pow_succ, ← Int.ediv_ediv_of_nonneg (Int.le_of_lt (Int.pow_pos (by decide)))]
  rw [e]
  omega
/-- One step of the division by digits. -/
theorem div_more (A D b : Int) (d0 : 0 < D) (b0 : 0 ≤ b) (b1 : b ≤ 1) :
    (D ≤ 2 * (A % D) + b → (2 * A + b) / D = 2 * (A / D) + 1 ∧ (2 * A + b) % D = 2 * (A % D) + b - D) ∧ (2 * (A % D) + b < D → (2 * A + b) / D = 2 * (A / D) ∧ (2 * A + b) % D = 2 * (A % D) + b) := by
  have e := Int.mul_ediv_add_emod A D
  have r0 := Int.emod_nonneg A (show D ≠ 0 by omega)
  have r1 := Int.emod_lt_of_pos A d0
  constructor
  · intro h
    refine (Int.ediv_emod_unique d0).2 ⟨?_, by omega, by omega⟩
    rw [Int.mul_add, ← Int.mul_assoc, Int.mul_comm D 2, Int.mul_assoc]
    omega
  · intro h
    refine (Int.ediv_emod_unique d0).2 ⟨?_, by omega, by omega⟩
    rw [← Int.mul_assoc, Int.mul_comm D 2, Int.mul_assoc]
    omega
end Go.Proofs.YtnfkmpickmonoaaGreat

/-
  What lies in memory while the document divides numbers of 128 bits, digit by digit, and the plain laws of one digit.
-/
namespace Go.Proofs.YtnfkmpickmonoaaGreat
open Go.RowKit Go.Shelf
set_option linter.unusedVariables false
theorem six (w : World) (a b c d e f : Obj) : Below w.heap.size w ((((((w.alloc a).alloc b).alloc c).alloc d).alloc e).alloc f) := beyond (three w a b c) (three _ d e f)
def St (W : World) (s : Nat) (nh nl dh dl qh ql rh rl : Int) : Prop := W.cell? ⟨s, 0, none⟩ = some (.int .u64 nh) ∧ W.cell? ⟨s, 1, none⟩ = some (.int .u64 nl) ∧ W.cell? ⟨s + 1, 0, none⟩ = some (.int .u64 dh) ∧ W.cell? ⟨s + 1, 1, none⟩ = some (.int .u64 dl) ∧ W.cell? ⟨s + 1 + 1, 0, none⟩ = some (.int .u64 0) ∧ W.cell? ⟨s + 1 + 1, 1, none⟩ = some (.int .u64 0) ∧ W.cell? ⟨s + 1 + 1 + 1, 0, none⟩ = some (.int .u64 0) ∧ W.cell? ⟨s + 1 + 1 + 1, 1, none⟩ = some (.int .u64 0) ∧ W.cell? ⟨s + 1 + 1 + 1 + 1, 0, none⟩ = some (.int .u64 qh) ∧ W.cell? ⟨s + 1 + 1 + 1 + 1, 1, none⟩ = some (.int .u64 ql) ∧ W.cell? ⟨s + 1 + 1 + 1 + 1 + 1, 0, none⟩ = some (.int .u64 rh) ∧ W.cell? ⟨s + 1 + 1 + 1 + 1 + 1, 1, none⟩ = some (.int .u64 rl) ∧ W.frozen? ⟨s + 1 + 1, 0, none⟩ = false ∧ W.frozen? ⟨s + 1 + 1, 1, none⟩ = false ∧ W.frozen? ⟨s + 1 + 1 + 1, 0, none⟩ = false ∧ W.frozen? ⟨s + 1 + 1 + 1, 1, none⟩ = false ∧ W.frozen? ⟨s + 1 + 1 + 1 + 1, 0, none⟩ = false ∧ W.frozen? ⟨s + 1 + 1 + 1 + 1, 1, none⟩ = false ∧ W.frozen? ⟨s + 1 + 1 + 1 + 1 + 1, 0, none⟩ = false ∧ W.frozen? ⟨s + 1 + 1 + 1 + 1 + 1, 1, none⟩ = false
theorem st_below {W W' : World} {s : Nat} {nh nl dh dl qh ql rh rl : Int} (h : St W s nh nl dh dl qh ql rh rl) (hb : Below W.heap.size W W') : St W' s nh nl dh dl qh ql rh rl := by
  obtain ⟨c0, c1, c2, c3, c4, c5, c6, c7, c8, c9, c10, c11, f0, f1, f2, f3, f4, f5, f6, f7⟩ := h
  exact ⟨kc _ _ hb c0, kc _ _ hb c1, kc _ _ hb c2, kc _ _ hb c3, kc _ _ hb c4, kc _ _ hb c5, kc _ _ hb c6, kc _ _ hb c7, kc _ _ hb c8, kc _ _ hb c9, kc _ _ hb c10, kc _ _ hb c11, kf _ _ hb c4 f0, kf _ _ hb c5 f1, kf _ _ hb c6 f2, kf _ _ hb c7 f3, kf _ _ hb c8 f4, kf _ _ hb c9 f5, kf _ _ hb c10 f6, kf _ _ hb c11 f7⟩
theorem st_r {W : World} {s : Nat} {nh nl dh dl qh ql rh rl : Int} (h : St W s nh nl dh dl qh ql rh rl) (a b : Int) : St ((W.setCell ⟨s + 1 + 1 + 1 + 1 + 1, 0, none⟩ (.int .u64 a)).setCell ⟨s + 1 + 1 + 1 + 1 + 1, 1, none⟩ (.int .u64 b)) s nh nl dh dl qh ql a b := by
  obtain ⟨c0, c1, c2, c3, c4, c5, c6, c7, c8, c9, c10, c11, f0, f1, f2, f3, f4, f5, f6, f7⟩ := h
  have m0_2 : ¬ s = s + 1 + 1 := by omega
  have m0_3 : ¬ s = s + 1 + 1 + 1 := by omega
  have m0_4 : ¬ s = s + 1 + 1 + 1 + 1 := by omega
  have m0_5 : ¬ s = s + 1 + 1 + 1 + 1 + 1 := by omega
  have m1_3 : ¬ s + 1 = s + 1 + 1 + 1 := by omega
  have m1_4 : ¬ s + 1 = s + 1 + 1 + 1 + 1 := by omega
  have m1_5 : ¬ s + 1 = s + 1 + 1 + 1 + 1 + 1 := by omega
  have m2_0 : ¬ s + 1 + 1 = s := by omega
  have m2_4 : ¬ s + 1 + 1 = s + 1 + 1 + 1 + 1 := by omega
  have m2_5 : ¬ s + 1 + 1 = s + 1 + 1 + 1 + 1 + 1 := by omega
  have m3_0 : ¬ s + 1 + 1 + 1 = s := by omega
  have m3_1 : ¬ s + 1 + 1 + 1 = s + 1 := by omega
  have m3_5 : ¬ s + 1 + 1 + 1 = s + 1 + 1 + 1 + 1 + 1 := by omega
  have m4_0 : ¬ s + 1 + 1 + 1 + 1 = s := by omega
  have m4_1 : ¬ s + 1 + 1 + 1 + 1 = s + 1 := by omega
  have m4_2 : ¬ s + 1 + 1 + 1 + 1 = s + 1 + 1 := by omega
  have m5_0 : ¬ s + 1 + 1 + 1 + 1 + 1 = s := by omega
  have m5_1 : ¬ s + 1 + 1 + 1 + 1 + 1 = s + 1 := by omega
  have m5_2 : ¬ s + 1 + 1 + 1 + 1 + 1 = s + 1 + 1 := by omega
  have m5_3 : ¬ s + 1 + 1 + 1 + 1 + 1 = s + 1 + 1 + 1 := by omega
  unfold St
  simp [go_sem, *]
theorem st_q {W : World} {s : Nat} {nh nl dh dl qh ql rh rl : Int} (h : St W s nh nl dh dl qh ql rh rl) (a b : Int) : St ((W.setCell ⟨s + 1 + 1 + 1 + 1, 0, none⟩ (.int .u64 a)).setCell ⟨s + 1 + 1 + 1 + 1, 1, none⟩ (.int .u64 b)) s nh nl dh dl a b rh rl := by
  obtain ⟨c0, c1, c2, c3, c4, c5, c6, c7, c8, c9, c10, c11, f0, f1, f2, f3, f4, f5, f6, f7⟩ := h
  have m0_2 : ¬ s = s + 1 + 1 := by omega
  have m0_3 : ¬ s = s + 1 + 1 + 1 := by omega
  have m0_4 : ¬ s = s + 1 + 1 + 1 + 1 := by omega
  have m0_5 : ¬ s = s + 1 + 1 + 1 + 1 + 1 := by omega
  have m1_3 : ¬ s + 1 = s + 1 + 1 + 1 := by omega
  have m1_4 : ¬ s + 1 = s + 1 + 1 + 1 + 1 := by omega
  have m1_5 : ¬ s + 1 = s + 1 + 1 + 1 + 1 + 1 := by omega
  have m2_0 : ¬ s + 1 + 1 = s := by omega
  have m2_4 : ¬ s + 1 + 1 = s + 1 + 1 + 1 + 1 := by omega
  have m2_5 : ¬ s + 1 + 1 = s + 1 + 1 + 1 + 1 + 1 := by omega
  have m3_0 : ¬ s + 1 + 1 + 1 = s := by omega
  have m3_1 : ¬ s + 1 + 1 + 1 = s + 1 := by omega
  have m3_5 : ¬ s + 1 + 1 + 1 = s + 1 + 1 + 1 + 1 + 1 := by omega
  have m4_0 : ¬ s + 1 + 1 + 1 + 1 = s := by omega
  have m4_1 : ¬ s + 1 + 1 + 1 + 1 = s + 1 := by omega
  have m4_2 : ¬ s + 1 + 1 + 1 + 1 = s + 1 + 1 := by omega
  have m5_0 : ¬ s + 1 + 1 + 1 + 1 + 1 = s := by omega
  have m5_1 : ¬ s + 1 + 1 + 1 + 1 + 1 = s + 1 := by omega
  have m5_2 : ¬ s + 1 + 1 + 1 + 1 + 1 = s + 1 + 1 := by omega
  have m5_3 : ¬ s + 1 + 1 + 1 + 1 + 1 = s + 1 + 1 + 1 := by omega
  unfold St
  simp [go_sem, *]
theorem st_ql {W : World} {s : Nat} {nh nl dh dl qh ql rh rl : Int} (h : St W s nh nl dh dl qh ql rh rl) (b : Int) : St (W.setCell ⟨s + 1 + 1 + 1 + 1, 1, none⟩ (.int .u64 b)) s nh nl dh dl qh b rh rl := by
  obtain ⟨c0, c1, c2, c3, c4, c5, c6, c7, c8, c9, c10, c11, f0, f1, f2, f3, f4, f5, f6, f7⟩ := h
  have m0_2 : ¬ s = s + 1 + 1 := by omega
  have m0_3 : ¬ s = s + 1 + 1 + 1 := by omega
  have m0_4 : ¬ s = s + 1 + 1 + 1 + 1 := by omega
  have m0_5 : ¬ s = s + 1 + 1 + 1 + 1 + 1 := by omega
  have m1_3 : ¬ s + 1 = s + 1 + 1 + 1 := by omega
  have m1_4 : ¬ s + 1 = s + 1 + 1 + 1 + 1 := by omega
  have m1_5 : ¬ s + 1 = s + 1 + 1 + 1 + 1 + 1 := by omega
  have m2_0 : ¬ s + 1 + 1 = s := by omega
  have m2_4 : ¬ s + 1 + 1 = s + 1 + 1 + 1 + 1 := by omega
  have m2_5 : ¬ s + 1 + 1 = s + 1 + 1 + 1 + 1 + 1 := by omega
  have m3_0 : ¬ s + 1 + 1 + 1 = s := by omega
  have m3_1 : ¬ s + 1 + 1 + 1 = s + 1 := by omega
  have m3_5 : ¬ s + 1 + 1 + 1 = s + 1 + 1 + 1 + 1 + 1 := by omega
  have m4_0 : ¬ s + 1 + 1 + 1 + 1 = s := by omega
  have m4_1 : ¬ s + 1 + 1 + 1 + 1 = s + 1 := by omega
  have m4_2 : ¬ s + 1 + 1 + 1 + 1 = s + 1 + 1 := by omega
  have m5_0 : ¬ s + 1 + 1 + 1 + 1 + 1 = s := by omega
  have m5_1 : ¬ s + 1 + 1 + 1 + 1 + 1 = s + 1 := by omega
  have m5_2 : ¬ s + 1 + 1 + 1 + 1 + 1 = s + 1 + 1 := by omega
  have m5_3 : ¬ s + 1 + 1 + 1 + 1 + 1 = s + 1 + 1 + 1 := by omega
  unfold St
  simp [go_sem, *]
theorem words2 (Q : Int) (q0 : 0 ≤ Q) (q1 : 2 * Q < 340282366920938463463374607431768211456) : bits BinOp.or IntKind.u64 (IntKind.u64.wrap (hiW Q * 2)) (loW Q / 9223372036854775808) = hiW (2 * Q) ∧ IntKind.u64.wrap (loW Q * 2) = loW (2 * Q) ∧ bits BinOp.or IntKind.u64 (loW (2 * Q)) 1 = loW (2 * Q + 1) ∧ hiW (2 * Q + 1) = hiW (2 * Q) := by
  have l := lo_bd Q
  have h0 : 0 ≤ hiW Q := by unfold hiW; omega
  have h1 : hiW Q ≤ 9223372036854775807 := by unfold hiW; omega
  have e : IntKind.u64.wrap (hiW Q * 2) = 2 * hiW Q := by rw [IntKind.wrap_u64]; omega
  refine ⟨?_, ?_, ?_, ?_⟩
  · rw [e, or_bit _ _ h0 (by omega) (by omega) (by omega)]
    unfold hiW loW at *
    omega
  · rw [IntKind.wrap_u64]
    unfold loW at *
    omega
  · have e2 : loW (2 * Q) = 2 * (loW (2 * Q) / 2) := by unfold loW; omega
    have b := lo_bd (2 * Q)
    rw [e2, or_bit _ _ (by omega) (by omega) (by omega) (by omega)]
    unfold loW at *
    omega
  · unfold hiW
    omega
theorem wordsR (R b : Int) (r0 : 0 ≤ R) (r1 : R < 340282366920938463463374607431768211456) (b0 : 0 ≤ b) (b1 : b ≤ 1) : bits BinOp.or IntKind.u64 (IntKind.u64.wrap (hiW R * 2)) (loW R / 9223372036854775808) = hiW ((2 * R + b) % 340282366920938463463374607431768211456) ∧ bits BinOp.or IntKind.u64 (IntKind.u64.wrap (loW R * 2)) b = loW ((2 * R + b) % 340282366920938463463374607431768211456) := by
  have l := lo_bd R
  have h0 : 0 ≤ hiW R := by unfold hiW; omega
  have h1 : hiW R ≤ 18446744073709551615 := by unfold hiW; omega
  constructor
  · have e : IntKind.u64.wrap (hiW R * 2) = 2 * (hiW R % 9223372036854775808) := by rw [IntKind.wrap_u64]; omega
    rw [e, or_bit _ _ (by omega) (by omega) (by omega) (by omega)]
    unfold hiW loW at *
    omega
  · have e : IntKind.u64.wrap (loW R * 2) = 2 * (loW R % 9223372036854775808) := by rw [IntKind.wrap_u64]; omega
    rw [e, or_bit _ _ (by omega) b0 b1 (by omega)]
    unfold loW at *
    omega
end Go.Proofs.YtnfkmpickmonoaaGreat
