/-
  The contracts of the numbers of 128 bits of package rat: a pair of words stands for hi times 2^64 and lo; product, plus, minus, below, zero, atMost do what their names say where nothing goes round.
-/
import Derived.Test.YtjanibholjimkaaQ32
import Derived.Test.YtjanibholjimkaaSc
import Derived.Shelf.Spec.BitsCarry
import Derived.WalkSpells
namespace Go.Proofs.Ytjanibholjimkaa
open Go.RowKit Go.Shelf
set_option linter.unusedVariables false

def hiW (N : Int) : Int := N / 18446744073709551616
def loW (N : Int) : Int := N % 18446744073709551616
abbrev wv (N : Int) : Value := .agg #[.int .u64 (hiW N), .int .u64 (loW N)]
/-- A number of 128 bits, not below 0. -/
def U128 (N : Int) : Prop := 0 ≤ N ∧ N < 340282366920938463463374607431768211456
theorem hi_bd {N : Int} (h : U128 N) : 0 ≤ hiW N ∧ hiW N ≤ 18446744073709551615 := by unfold hiW; obtain ⟨_, _⟩ := h; omega
theorem lo_bd (N : Int) : 0 ≤ loW N ∧ loW N ≤ 18446744073709551615 := by unfold loW; omega
theorem hilo (N : Int) : N = hiW N * 18446744073709551616 + loW N := by unfold hiW loW; omega
theorem lo_small {N : Int} (h0 : 0 ≤ N) (h1 : N ≤ 18446744073709551615) : loW N = N := by unfold loW; omega
theorem wv_mk {a b N : Int} (h : a = hiW N) (g : b = loW N) : Value.agg #[.int .u64 a, .int .u64 b] = wv N := by rw [h, g]

/-! ### product -/
theorem mul64 (x y : Int) (w : World) (hx : U64 x) (hy : U64 y) :
    Calls Try.prog 63 #[.int .u64 x, .int .u64 y] w fun e w' => e = .returned (.tuple #[.int .u64 (hiW (x * y)), .int .u64 (loW (x * y))]) ∧ w' = w := by
  obtain ⟨x0, x1⟩ := hx
  obtain ⟨y0, y1⟩ := hy
  obtain ⟨a, rfl⟩ := Int.eq_ofNat_of_zero_le x0
  obtain ⟨b, rfl⟩ := Int.eq_ofNat_of_zero_le y0
  have h := Go.Proofs.Try.bits_Mul64 a b (by omega) (by omega) w
  have e1 : ((a * b / 18446744073709551616 : Nat) : Int) = hiW ((a : Int) * (b : Int)) := by unfold hiW; rw [← Int.natCast_mul]; omega
  have e2 : ((a * b % 18446744073709551616 : Nat) : Int) = loW ((a : Int) * (b : Int)) := by unfold loW; rw [← Int.natCast_mul]; omega
  rw [e1, e2] at h
  exact h
theorem product_raw (x y a b : Int) (w : World) (H : Hid (∀ w, Calls Try.prog 63 #[.int .u64 x, .int .u64 y] w fun e w' => e = .returned (.tuple #[.int .u64 a, .int .u64 b]) ∧ w' = w)) :
    Calls Try.prog 47 #[.int .u64 x, .int .u64 y] w fun e w' => e = .returned (.agg #[.int .u64 a, .int .u64 b]) ∧ Below w.heap.size w w' := by
  go_enter Try.func47, Try.ntmps47
  go_wp2_with fail
  refine (H.out _).mono ?_
  rintro e w' ⟨rfl, rfl⟩
  go_wp2
  exact bodyPost_ret (v := .agg #[.int .u64 a, .int .u64 b]) (by simp [results, Try.results47, go_sem]) rfl ⟨rfl, (Below.refl _ _).alloc (Nat.le_refl _) _⟩
theorem product_any (x y : Int) (w : World) (hx : U64 x) (hy : U64 y) :
    Calls Try.prog 47 #[.int .u64 x, .int .u64 y] w fun e w' => e = .returned (wv (x * y)) ∧ Below w.heap.size w w' :=
  product_raw x y _ _ w (fun w => mul64 x y w hx hy)

/-! ### plus, minus -/
theorem add64R (x y c : Int) (hx : 0 ≤ x) (hy : 0 ≤ y) (hc0 : 0 ≤ c) (hc : c ≤ 1) (w : World) : (callFunc 68 #[.int .u64 x, .int .u64 y, .int .u64 c]).run Try.prog w =
    .ok (.value (.tuple #[.int .u64 ((x + y + c) % 18446744073709551616), .int .u64 ((x + y + c) / 18446744073709551616)])) w := by
  rw [run_callFunc_extern Try.func68 (by kernel_rfl) (by kernel_rfl) (by kernel_rfl) (e := add64Entry) (by kernel_rfl), run_add64 x y c hx hy hc0 hc]
  rfl
theorem sub64R (x y b : Int) (hx : 0 ≤ x) (hy : 0 ≤ y) (hy1 : y ≤ 18446744073709551615) (hb0 : 0 ≤ b) (hb : b ≤ 1) (w : World) : (callFunc 69 #[.int .u64 x, .int .u64 y, .int .u64 b]).run Try.prog w =
    .ok (.value (.tuple #[.int .u64 ((x - y - b) % 18446744073709551616), .int .u64 (if x < y + b then 1 else 0)])) w := by
  obtain ⟨x, rfl⟩ := Int.eq_ofNat_of_zero_le hx
  obtain ⟨y, rfl⟩ := Int.eq_ofNat_of_zero_le hy
  obtain ⟨b, rfl⟩ := Int.eq_ofNat_of_zero_le hb0
  have e1 : (((x + 18446744073709551616 - y - b) % 18446744073709551616 : Nat) : Int) = ((x : Int) - y - b) % 18446744073709551616 := by omega
  have e2 : ((if x < y + b then 1 else 0 : Nat) : Int) = if (x : Int) < y + b then 1 else 0 := by split <;> split <;> omega
  rw [← e1, ← e2, run_callFunc_extern Try.func69 (by kernel_rfl) (by kernel_rfl) (by kernel_rfl) (e := sub64Entry) (by kernel_rfl), run_sub64 x y b (by omega)]
  rfl
def cy (x y : Int) : Int := (x + y) / 18446744073709551616
def bw (x y : Int) : Int := if x < y then 1 else 0
def ad (x y c : Int) : Int := (x + y + c) % 18446744073709551616
def sb (x y c : Int) : Int := (x - y - c) % 18446744073709551616
def bw2 (x y c : Int) : Int := if x < y + c then 1 else 0
def cy2 (x y c : Int) : Int := (x + y + c) / 18446744073709551616
theorem add64_0 (x y : Int) (hx : 0 ≤ x) (hy : 0 ≤ y) (w : World) : (callFunc 68 #[.int .u64 x, .int .u64 y, .int .u64 0]).run Try.prog w =
    .ok (.value (.tuple #[.int .u64 (ad x y 0), .int .u64 (cy x y)])) w := by
  have := add64R x y 0 hx hy (Int.le_refl 0) (by decide) w
  rw [this]
  unfold ad cy
  rw [Int.add_zero]
theorem add64_c (x y c : Int) (hx : 0 ≤ x) (hy : 0 ≤ y) (hc0 : 0 ≤ c) (hc : c ≤ 1) (w : World) : (callFunc 68 #[.int .u64 x, .int .u64 y, .int .u64 c]).run Try.prog w =
    .ok (.value (.tuple #[.int .u64 (ad x y c), .int .u64 (cy2 x y c)])) w := add64R x y c hx hy hc0 hc w
theorem sub64_0 (x y : Int) (hx : 0 ≤ x) (hy : 0 ≤ y) (hy1 : y ≤ 18446744073709551615) (w : World) : (callFunc 69 #[.int .u64 x, .int .u64 y, .int .u64 0]).run Try.prog w =
    .ok (.value (.tuple #[.int .u64 (sb x y 0), .int .u64 (bw x y)])) w := by
  have := sub64R x y 0 hx hy hy1 (Int.le_refl 0) (by decide) w
  rw [this]
  unfold sb bw
  rw [Int.add_zero]
theorem sub64_c (x y c : Int) (hx : 0 ≤ x) (hy : 0 ≤ y) (hy1 : y ≤ 18446744073709551615) (hc0 : 0 ≤ c) (hc : c ≤ 1) (w : World) : (callFunc 69 #[.int .u64 x, .int .u64 y, .int .u64 c]).run Try.prog w =
    .ok (.value (.tuple #[.int .u64 (sb x y c), .int .u64 (bw2 x y c)])) w := sub64R x y c hx hy hy1 hc0 hc w
theorem three (w : World) (a b c : Obj) : Below w.heap.size w (((w.alloc a).alloc b).alloc c) :=
  ((((Below.refl _ _).alloc (Nat.le_refl _) _).alloc (by simp) _).alloc (by simp; omega) _)

set_option maxHeartbeats 400000 in
theorem plus_raw (ah al bh bl : Int) (w : World) (a0 : 0 ≤ ah) (a1 : 0 ≤ al) (b0 : 0 ≤ bh) (b1 : 0 ≤ bl) (k0 : 0 ≤ cy al bl) (k1 : cy al bl ≤ 1) :
    Calls Try.prog 58 #[.agg #[.int .u64 ah, .int .u64 al], .agg #[.int .u64 bh, .int .u64 bl]] w fun e w' => e = .returned (.agg #[.int .u64 (ad ah bh (cy al bl)), .int .u64 (ad al bl 0)]) ∧ Below w.heap.size w w' := by
  go_enter Try.func58, Try.ntmps58
  go_wp2_with (first | simp only [add64_0 al bl a1 b1] | simp only [add64_c ah bh _ a0 b0 k0 k1])
  exact bodyPost_ret (v := .agg #[.int .u64 (ad ah bh (cy al bl)), .int .u64 (ad al bl 0)]) (by simp [results, Try.results58, go_sem]) rfl ⟨rfl, three _ _ _ _⟩
set_option maxHeartbeats 400000 in
theorem minus_raw (ah al bh bl : Int) (w : World) (a0 : 0 ≤ ah) (a1 : 0 ≤ al) (b0 : 0 ≤ bh) (b1 : 0 ≤ bl) (b2 : bh ≤ 18446744073709551615) (b3 : bl ≤ 18446744073709551615) (k0 : 0 ≤ bw al bl) (k1 : bw al bl ≤ 1) :
    Calls Try.prog 60 #[.agg #[.int .u64 ah, .int .u64 al], .agg #[.int .u64 bh, .int .u64 bl]] w fun e w' => e = .returned (.agg #[.int .u64 (sb ah bh (bw al bl)), .int .u64 (sb al bl 0)]) ∧ Below w.heap.size w w' := by
  go_enter Try.func60, Try.ntmps60
  go_wp2_with (first | simp only [sub64_0 al bl a1 b1 b3] | simp only [sub64_c ah bh _ a0 b0 b2 k0 k1])
  exact bodyPost_ret (v := .agg #[.int .u64 (sb ah bh (bw al bl)), .int .u64 (sb al bl 0)]) (by simp [results, Try.results60, go_sem]) rfl ⟨rfl, three _ _ _ _⟩
theorem plus_any (M N : Int) (w : World) (hM : U128 M) (hN : U128 N) (h : U128 (M + N)) :
    Calls Try.prog 58 #[wv M, wv N] w fun e w' => e = .returned (wv (M + N)) ∧ Below w.heap.size w w' := by
  obtain ⟨m0, m1⟩ := hi_bd hM
  obtain ⟨n0, n1⟩ := hi_bd hN
  obtain ⟨p0, p1⟩ := lo_bd M
  obtain ⟨q0, q1⟩ := lo_bd N
  have c := plus_raw (hiW M) (loW M) (hiW N) (loW N) w m0 p0 n0 q0 (by unfold cy; omega) (by unfold cy; omega)
  have e : Value.agg #[.int .u64 (ad (hiW M) (hiW N) (cy (loW M) (loW N))), .int .u64 (ad (loW M) (loW N) 0)] = wv (M + N) := by
    obtain ⟨h0, h1⟩ := h
    apply wv_mk
    · unfold ad cy hiW loW; omega
    · unfold ad loW; omega
  rw [e] at c
  exact c
theorem minus_any (M N : Int) (w : World) (hM : U128 M) (hN : U128 N) (h : N ≤ M) :
    Calls Try.prog 60 #[wv M, wv N] w fun e w' => e = .returned (wv (M - N)) ∧ Below w.heap.size w w' := by
  obtain ⟨m0, m1⟩ := hi_bd hM
  obtain ⟨n0, n1⟩ := hi_bd hN
  obtain ⟨p0, p1⟩ := lo_bd M
  obtain ⟨q0, q1⟩ := lo_bd N
  have c := minus_raw (hiW M) (loW M) (hiW N) (loW N) w m0 p0 n0 q0 n1 q1 (by unfold bw; split <;> decide) (by unfold bw; split <;> decide)
  have e : Value.agg #[.int .u64 (sb (hiW M) (hiW N) (bw (loW M) (loW N))), .int .u64 (sb (loW M) (loW N) 0)] = wv (M - N) := by
    obtain ⟨h0, h1⟩ := hM
    obtain ⟨g0, g1⟩ := hN
    apply wv_mk
    · unfold sb bw hiW loW; split <;> omega
    · unfold sb loW; omega
  rw [e] at c
  exact c

/-! ### below, zero, atMost -/
theorem two (w : World) (a b : Obj) : Below w.heap.size w ((w.alloc a).alloc b) := (((Below.refl _ _).alloc (Nat.le_refl _) _).alloc (by simp) _)
theorem single (w : World) (a : Obj) : Below w.heap.size w (w.alloc a) := (Below.refl _ _).alloc (Nat.le_refl _) _
theorem below_lt (a b c d : Int) (w : World) (h : a < c) :
    Calls Try.prog 59 #[.agg #[.int .u64 a, .int .u64 b], .agg #[.int .u64 c, .int .u64 d]] w fun e w' => e = .returned (.bool true) ∧ Below w.heap.size w w' := by
  go_enter Try.func59, Try.ntmps59
  go_wp2
  go_ret
  exact ⟨rfl, two _ _ _⟩
theorem below_gt (a b c d : Int) (w : World) (h : c < a) :
    Calls Try.prog 59 #[.agg #[.int .u64 a, .int .u64 b], .agg #[.int .u64 c, .int .u64 d]] w fun e w' => e = .returned (.bool false) ∧ Below w.heap.size w w' := by
  have h1 : decide (a < c) = false := by simp; omega
  have h2 : (a == c) = false := by simp; omega
  go_enter Try.func59, Try.ntmps59
  go_wp2
  go_ret
  exact ⟨rfl, two _ _ _⟩
theorem below_eq (a b d : Int) (w : World) :
    Calls Try.prog 59 #[.agg #[.int .u64 a, .int .u64 b], .agg #[.int .u64 a, .int .u64 d]] w fun e w' => e = .returned (.bool (decide (b < d))) ∧ Below w.heap.size w w' := by
  have h1 : decide (a < a) = false := by simp
  go_enter Try.func59, Try.ntmps59
  go_wp2
  go_ret
  exact ⟨rfl, two _ _ _⟩
theorem below_any (M N : Int) (w : World) :
    Calls Try.prog 59 #[wv M, wv N] w fun e w' => e = .returned (.bool (decide (M < N))) ∧ Below w.heap.size w w' := by
  have k1 : hiW M < hiW N → M < N := by unfold hiW; omega
  have k2 : hiW M = hiW N → (M < N ↔ loW M < loW N) := by unfold hiW loW; omega
  have k3 : hiW N < hiW M → ¬ M < N := by unfold hiW; omega
  by_cases c1 : hiW M < hiW N
  · have e : decide (M < N) = true := by simpa using k1 c1
    rw [e]
    exact below_lt _ _ _ _ w c1
  · by_cases c2 : hiW N < hiW M
    · have e : decide (M < N) = false := by simpa using k3 c2
      rw [e]
      exact below_gt _ _ _ _ w c2
    · have c3 : hiW M = hiW N := by omega
      have e : decide (M < N) = decide (loW M < loW N) := decide_eq_decide.2 (k2 c3)
      have g := below_eq (hiW M) (loW M) (loW N) w
      rw [e]
      simp only [wv]
      rw [← c3]
      exact g
theorem zero_raw (a b : Int) (w : World) :
    Calls Try.prog 66 #[.agg #[.int .u64 a, .int .u64 b]] w fun e w' => e = .returned (.bool (a == 0 && b == 0)) ∧ Below w.heap.size w w' := by
  go_enter Try.func66, Try.ntmps66
  go_wp2
  all_goals go_ret
  all_goals exact ⟨by simp_all, single _ _⟩
theorem zero_any (N : Int) (w : World) (h : U128 N) :
    Calls Try.prog 66 #[wv N] w fun e w' => e = .returned (.bool (decide (N = 0))) ∧ Below w.heap.size w w' := by
  have c := zero_raw (hiW N) (loW N) w
  have e : (hiW N == 0 && loW N == 0) = decide (N = 0) := by
    have := hilo N
    rw [Bool.eq_iff_iff]
    simp
    constructor
    · rintro ⟨a, b⟩
      omega
    · intro a
      subst a
      decide
  rw [e] at c
  exact c
theorem atMost_no (a b n : Int) (w : World) (h : (a == 0) = false) :
    Calls Try.prog 62 #[.agg #[.int .u64 a, .int .u64 b], .int .u64 n] w fun e w' => e = .returned (.bool false) ∧ Below w.heap.size w w' := by
  go_enter Try.func62, Try.ntmps62
  go_wp2
  go_ret
  exact ⟨rfl, single _ _⟩
theorem atMost_yes (b n : Int) (w : World) :
    Calls Try.prog 62 #[.agg #[.int .u64 0, .int .u64 b], .int .u64 n] w fun e w' => e = .returned (.bool (decide (b ≤ n))) ∧ Below w.heap.size w w' := by
  go_enter Try.func62, Try.ntmps62
  go_wp2
  go_ret
  exact ⟨rfl, single _ _⟩
theorem atMostW_any (N n : Int) (w : World) (h0 : 0 ≤ N) (h : n ≤ 18446744073709551615) :
    Calls Try.prog 62 #[wv N, .int .u64 n] w fun e w' => e = .returned (.bool (decide (N ≤ n))) ∧ Below w.heap.size w w' := by
  by_cases c : hiW N = 0
  · have e : decide (N ≤ n) = decide (loW N ≤ n) := decide_eq_decide.2 (by unfold hiW at c; unfold loW; omega)
    have g := atMost_yes (loW N) n w
    rw [e]
    simp only [wv]
    rw [c]
    exact g
  · have e : decide (N ≤ n) = false := by simp; unfold hiW at c; omega
    rw [e]
    exact atMost_no _ _ _ w (by simpa using c)
end Go.Proofs.Ytjanibholjimkaa
