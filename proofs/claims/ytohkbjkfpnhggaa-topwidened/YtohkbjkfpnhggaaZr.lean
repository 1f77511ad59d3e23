/-
  The contracts of the numbers of 128 bits of package rat: a pair of words stands for hi times 2^64 and lo; product, plus, minus, below, zero, atMost do what their names say where nothing goes round.
-/
import Derived.Test.YtohkbjkfpnhggaaRaz
import Derived.Test.YtohkbjkfpnhggaaSc
import Derived.Shelf.Spec.BitsCarry
import Derived.WalkSpells
import Derived.Deep.RegionHeld3
namespace Go.Proofs.Ytohkbjkfpnhggaa
open Go.RowKit Go.Shelf
set_option linter.unusedVariables false

def hiW (N : Int) : Int := N / 18446744073709551616
def loW (N : Int) : Int := N % 18446744073709551616
abbrev wv (N : Int) : Value := .agg #[.int .u64 (hiW N), .int .u64 (loW N)]
/-- A number of 128 bits, not below 0. -/
def U128 (N : Int) : Prop := 0 ≤ N ∧ N < 340282366920938463463374607431768211456
theorem hi_bd {N : Int} (h : U128 N) : 0 ≤ hiW N ∧ hiW N ≤ 18446744073709551615 := by unfold hiW; obtain ⟨_, _⟩ := h; omega
theorem lo_bd (N : Int) : 0 ≤ loW N ∧ loW N ≤ 18446744073709551615 := by unfold loW; omega
theorem hilo (N : Int) : N = hiW N * 18446744073709551616 + loW N := by unfold hiW loW; omega
theorem hi_small {N : Int} (h0 : 0 ≤ N) (h1 : N ≤ 18446744073709551615) : hiW N = 0 := by unfold hiW; omega
theorem lo_small {N : Int} (h0 : 0 ≤ N) (h1 : N ≤ 18446744073709551615) : loW N = N := by unfold loW; omega
theorem retV {a b : Value} (h : a = b) : Ending.returned a = .returned b := by rw [h]
theorem wv_mk {a b N : Int} (h : a = hiW N) (g : b = loW N) : Value.agg #[.int .u64 a, .int .u64 b] = wv N := by rw [h, g]

theorem narrow_w (n : Int) (w : World) (h0 : 0 ≤ n) (h1 : n ≤ 18446744073709551615) :
    Calls Try.prog 42 #[.int .u64 n] w fun e w' => e = .returned (wv n) ∧ Below w.heap.size w w' := by
  have h := narrow_any n w
  rw [wv_mk (hi_small h0 h1).symm (lo_small h0 h1).symm] at h
  exact h

/-! ### product -/
theorem mul64 (x y : Int) (w : World) (hx : U64 x) (hy : U64 y) :
    Calls Try.prog 92 #[.int .u64 x, .int .u64 y] w fun e w' => e = .returned (.tuple #[.int .u64 (hiW (x * y)), .int .u64 (loW (x * y))]) ∧ w' = w := by
  obtain ⟨x0, x1⟩ := hx
  obtain ⟨y0, y1⟩ := hy
  obtain ⟨a, rfl⟩ := Int.eq_ofNat_of_zero_le x0
  obtain ⟨b, rfl⟩ := Int.eq_ofNat_of_zero_le y0
  have h := Go.Proofs.Try.bits_Mul64 a b (by omega) (by omega) w
  have e1 : ((a * b / 18446744073709551616 : Nat) : Int) = hiW ((a : Int) * (b : Int)) := by unfold hiW; rw [← Int.natCast_mul]; omega
  have e2 : ((a * b % 18446744073709551616 : Nat) : Int) = loW ((a : Int) * (b : Int)) := by unfold loW; rw [← Int.natCast_mul]; omega
  rw [e1, e2] at h
  exact h
theorem product_raw (x y a b : Int) (w : World) (H : Hid (∀ w, Calls Try.prog 92 #[.int .u64 x, .int .u64 y] w fun e w' => e = .returned (.tuple #[.int .u64 a, .int .u64 b]) ∧ w' = w)) :
    Calls Try.prog 87 #[.int .u64 x, .int .u64 y] w fun e w' => e = .returned (.agg #[.int .u64 a, .int .u64 b]) ∧ Below w.heap.size w w' := by
  go_enter Try.func87, Try.ntmps87
  go_wp2_with fail
  refine (H.out _).mono ?_
  rintro e w' ⟨rfl, rfl⟩
  go_wp2
  exact bodyPost_ret (v := .agg #[.int .u64 a, .int .u64 b]) (by simp [results, Try.results87, go_sem]) rfl ⟨rfl, (Below.refl _ _).alloc (Nat.le_refl _) _⟩
theorem product_any (x y : Int) (w : World) (hx : U64 x) (hy : U64 y) :
    Calls Try.prog 87 #[.int .u64 x, .int .u64 y] w fun e w' => e = .returned (wv (x * y)) ∧ Below w.heap.size w w' :=
  product_raw x y _ _ w (fun w => mul64 x y w hx hy)

/-! ### plus, minus -/
theorem add64R (x y c : Int) (hx : 0 ≤ x) (hy : 0 ≤ y) (hc0 : 0 ≤ c) (hc : c ≤ 1) (w : World) : (callFunc 93 #[.int .u64 x, .int .u64 y, .int .u64 c]).run Try.prog w =
    .ok (.value (.tuple #[.int .u64 ((x + y + c) % 18446744073709551616), .int .u64 ((x + y + c) / 18446744073709551616)])) w := by
  rw [run_callFunc_extern Try.func93 (by kernel_rfl) (by kernel_rfl) (by kernel_rfl) (e := add64Entry) (by kernel_rfl), run_add64 x y c hx hy hc0 hc]
  rfl
theorem sub64R (x y b : Int) (hx : 0 ≤ x) (hy : 0 ≤ y) (hy1 : y ≤ 18446744073709551615) (hb0 : 0 ≤ b) (hb : b ≤ 1) (w : World) : (callFunc 94 #[.int .u64 x, .int .u64 y, .int .u64 b]).run Try.prog w =
    .ok (.value (.tuple #[.int .u64 ((x - y - b) % 18446744073709551616), .int .u64 (if x < y + b then 1 else 0)])) w := by
  obtain ⟨x, rfl⟩ := Int.eq_ofNat_of_zero_le hx
  obtain ⟨y, rfl⟩ := Int.eq_ofNat_of_zero_le hy
  obtain ⟨b, rfl⟩ := Int.eq_ofNat_of_zero_le hb0
  have e1 : (((x + 18446744073709551616 - y - b) % 18446744073709551616 : Nat) : Int) = ((x : Int) - y - b) % 18446744073709551616 := by omega
  have e2 : ((if x < y + b then 1 else 0 : Nat) : Int) = if (x : Int) < y + b then 1 else 0 := by split <;> split <;> omega
  rw [← e1, ← e2, run_callFunc_extern Try.func94 (by kernel_rfl) (by kernel_rfl) (by kernel_rfl) (e := sub64Entry) (by kernel_rfl), run_sub64 x y b (by omega)]
  rfl
def cy (x y : Int) : Int := (x + y) / 18446744073709551616
def bw (x y : Int) : Int := if x < y then 1 else 0
def ad (x y c : Int) : Int := (x + y + c) % 18446744073709551616
def sb (x y c : Int) : Int := (x - y - c) % 18446744073709551616
def bw2 (x y c : Int) : Int := if x < y + c then 1 else 0
def cy2 (x y c : Int) : Int := (x + y + c) / 18446744073709551616
theorem add64_0 (x y : Int) (hx : 0 ≤ x) (hy : 0 ≤ y) (w : World) : (callFunc 93 #[.int .u64 x, .int .u64 y, .int .u64 0]).run Try.prog w =
    .ok (.value (.tuple #[.int .u64 (ad x y 0), .int .u64 (cy x y)])) w := by
  have := add64R x y 0 hx hy (Int.le_refl 0) (by decide) w
  rw [this]
  unfold ad cy
  rw [Int.add_zero]
theorem add64_c (x y c : Int) (hx : 0 ≤ x) (hy : 0 ≤ y) (hc0 : 0 ≤ c) (hc : c ≤ 1) (w : World) : (callFunc 93 #[.int .u64 x, .int .u64 y, .int .u64 c]).run Try.prog w =
    .ok (.value (.tuple #[.int .u64 (ad x y c), .int .u64 (cy2 x y c)])) w := add64R x y c hx hy hc0 hc w
theorem sub64_0 (x y : Int) (hx : 0 ≤ x) (hy : 0 ≤ y) (hy1 : y ≤ 18446744073709551615) (w : World) : (callFunc 94 #[.int .u64 x, .int .u64 y, .int .u64 0]).run Try.prog w =
    .ok (.value (.tuple #[.int .u64 (sb x y 0), .int .u64 (bw x y)])) w := by
  have := sub64R x y 0 hx hy hy1 (Int.le_refl 0) (by decide) w
  rw [this]
  unfold sb bw
  rw [Int.add_zero]
theorem sub64_c (x y c : Int) (hx : 0 ≤ x) (hy : 0 ≤ y) (hy1 : y ≤ 18446744073709551615) (hc0 : 0 ≤ c) (hc : c ≤ 1) (w : World) : (callFunc 94 #[.int .u64 x, .int .u64 y, .int .u64 c]).run Try.prog w =
    .ok (.value (.tuple #[.int .u64 (sb x y c), .int .u64 (bw2 x y c)])) w := sub64R x y c hx hy hy1 hc0 hc w
theorem three (w : World) (a b c : Obj) : Below w.heap.size w (((w.alloc a).alloc b).alloc c) :=
  ((((Below.refl _ _).alloc (Nat.le_refl _) _).alloc (by simp) _).alloc (by simp; omega) _)

set_option maxHeartbeats 400000 in
theorem plus_raw (ah al bh bl : Int) (w : World) (a0 : 0 ≤ ah) (a1 : 0 ≤ al) (b0 : 0 ≤ bh) (b1 : 0 ≤ bl) (k0 : 0 ≤ cy al bl) (k1 : cy al bl ≤ 1) :
    Calls Try.prog 88 #[.agg #[.int .u64 ah, .int .u64 al], .agg #[.int .u64 bh, .int .u64 bl]] w fun e w' => e = .returned (.agg #[.int .u64 (ad ah bh (cy al bl)), .int .u64 (ad al bl 0)]) ∧ Below w.heap.size w w' := by
  go_enter Try.func88, Try.ntmps88
  go_wp2_with (first | simp only [add64_0 al bl a1 b1] | simp only [add64_c ah bh _ a0 b0 k0 k1])
  exact bodyPost_ret (v := .agg #[.int .u64 (ad ah bh (cy al bl)), .int .u64 (ad al bl 0)]) (by simp [results, Try.results88, go_sem]) rfl ⟨rfl, three _ _ _ _⟩
set_option maxHeartbeats 400000 in
theorem minus_raw (ah al bh bl : Int) (w : World) (a0 : 0 ≤ ah) (a1 : 0 ≤ al) (b0 : 0 ≤ bh) (b1 : 0 ≤ bl) (b2 : bh ≤ 18446744073709551615) (b3 : bl ≤ 18446744073709551615) (k0 : 0 ≤ bw al bl) (k1 : bw al bl ≤ 1) :
    Calls Try.prog 90 #[.agg #[.int .u64 ah, .int .u64 al], .agg #[.int .u64 bh, .int .u64 bl]] w fun e w' => e = .returned (.agg #[.int .u64 (sb ah bh (bw al bl)), .int .u64 (sb al bl 0)]) ∧ Below w.heap.size w w' := by
  go_enter Try.func90, Try.ntmps90
  go_wp2_with (first | simp only [sub64_0 al bl a1 b1 b3] | simp only [sub64_c ah bh _ a0 b0 b2 k0 k1])
  exact bodyPost_ret (v := .agg #[.int .u64 (sb ah bh (bw al bl)), .int .u64 (sb al bl 0)]) (by simp [results, Try.results90, go_sem]) rfl ⟨rfl, three _ _ _ _⟩
theorem plus_any (M N : Int) (w : World) (hM : U128 M) (hN : U128 N) (h : U128 (M + N)) :
    Calls Try.prog 88 #[wv M, wv N] w fun e w' => e = .returned (wv (M + N)) ∧ Below w.heap.size w w' := by
  obtain ⟨m0, m1⟩ := hi_bd hM
  obtain ⟨n0, n1⟩ := hi_bd hN
  obtain ⟨p0, p1⟩ := lo_bd M
  obtain ⟨q0, q1⟩ := lo_bd N
  have c := plus_raw (hiW M) (loW M) (hiW N) (loW N) w m0 p0 n0 q0 (by unfold cy; omega) (by unfold cy; omega)
  have e : Value.agg #[.int .u64 (ad (hiW M) (hiW N) (cy (loW M) (loW N))), .int .u64 (ad (loW M) (loW N) 0)] = wv (M + N) := by
    obtain ⟨h0, h1⟩ := h
    apply wv_mk
    · unfold ad cy hiW loW; omega
    · unfold ad loW; omega
  rw [e] at c
  exact c
theorem minus_any (M N : Int) (w : World) (hM : U128 M) (hN : U128 N) (h : N ≤ M) :
    Calls Try.prog 90 #[wv M, wv N] w fun e w' => e = .returned (wv (M - N)) ∧ Below w.heap.size w w' := by
  obtain ⟨m0, m1⟩ := hi_bd hM
  obtain ⟨n0, n1⟩ := hi_bd hN
  obtain ⟨p0, p1⟩ := lo_bd M
  obtain ⟨q0, q1⟩ := lo_bd N
  have c := minus_raw (hiW M) (loW M) (hiW N) (loW N) w m0 p0 n0 q0 n1 q1 (by unfold bw; split <;> decide) (by unfold bw; split <;> decide)
  have e : Value.agg #[.int .u64 (sb (hiW M) (hiW N) (bw (loW M) (loW N))), .int .u64 (sb (loW M) (loW N) 0)] = wv (M - N) := by
    obtain ⟨h0, h1⟩ := hM
    obtain ⟨g0, g1⟩ := hN
    apply wv_mk
    · unfold sb bw hiW loW; split <;> omega
    · unfold sb loW; omega
  rw [e] at c
  exact c

/-! ### below, zero, atMost -/
theorem two (w : World) (a b : Obj) : Below w.heap.size w ((w.alloc a).alloc b) := (((Below.refl _ _).alloc (Nat.le_refl _) _).alloc (by simp) _)
theorem single (w : World) (a : Obj) : Below w.heap.size w (w.alloc a) := (Below.refl _ _).alloc (Nat.le_refl _) _
theorem below_lt (a b c d : Int) (w : World) (h : a < c) :
    Calls Try.prog 89 #[.agg #[.int .u64 a, .int .u64 b], .agg #[.int .u64 c, .int .u64 d]] w fun e w' => e = .returned (.bool true) ∧ Below w.heap.size w w' := by
  go_enter Try.func89, Try.ntmps89
  go_wp2
  go_ret
  exact ⟨rfl, two _ _ _⟩
theorem below_gt (a b c d : Int) (w : World) (h : c < a) :
    Calls Try.prog 89 #[.agg #[.int .u64 a, .int .u64 b], .agg #[.int .u64 c, .int .u64 d]] w fun e w' => e = .returned (.bool false) ∧ Below w.heap.size w w' := by
  have h1 : decide (a < c) = false := by simp; omega
  have h2 : (a == c) = false := by simp; omega
  go_enter Try.func89, Try.ntmps89
  go_wp2
  go_ret
  exact ⟨rfl, two _ _ _⟩
theorem below_eq (a b d : Int) (w : World) :
    Calls Try.prog 89 #[.agg #[.int .u64 a, .int .u64 b], .agg #[.int .u64 a, .int .u64 d]] w fun e w' => e = .returned (.bool (decide (b < d))) ∧ Below w.heap.size w w' := by
  have h1 : decide (a < a) = false := by simp
  go_enter Try.func89, Try.ntmps89
  go_wp2
  go_ret
  exact ⟨rfl, two _ _ _⟩
theorem below_any (M N : Int) (w : World) :
    Calls Try.prog 89 #[wv M, wv N] w fun e w' => e = .returned (.bool (decide (M < N))) ∧ Below w.heap.size w w' := by
  have k1 : hiW M < hiW N → M < N := by unfold hiW; omega
  have k2 : hiW M = hiW N → (M < N ↔ loW M < loW N) := by unfold hiW loW; omega
  have k3 : hiW N < hiW M → ¬ M < N := by unfold hiW; omega
  by_cases c1 : hiW M < hiW N
  · have e : decide (M < N) = true := by simpa using k1 c1
    rw [e]
    exact below_lt _ _ _ _ w c1
  · by_cases c2 : hiW N < hiW M
    · have e : decide (M < N) = false := by simpa using k3 c2
      rw [e]
      exact below_gt _ _ _ _ w c2
    · have c3 : hiW M = hiW N := by omega
      have e : decide (M < N) = decide (loW M < loW N) := decide_eq_decide.2 (k2 c3)
      have g := below_eq (hiW M) (loW M) (loW N) w
      rw [e]
      simp only [wv]
      rw [← c3]
      exact g
theorem zero_raw (a b : Int) (w : World) :
    Calls Try.prog 91 #[.agg #[.int .u64 a, .int .u64 b]] w fun e w' => e = .returned (.bool (a == 0 && b == 0)) ∧ Below w.heap.size w w' := by
  go_enter Try.func91, Try.ntmps91
  go_wp2
  all_goals go_ret
  all_goals exact ⟨by simp_all, single _ _⟩
theorem zero_any (N : Int) (w : World) (h : U128 N) :
    Calls Try.prog 91 #[wv N] w fun e w' => e = .returned (.bool (decide (N = 0))) ∧ Below w.heap.size w w' := by
  have c := zero_raw (hiW N) (loW N) w
  have e : (hiW N == 0 && loW N == 0) = decide (N = 0) := by
    have := hilo N
    rw [Bool.eq_iff_iff]
    simp
    constructor
    · rintro ⟨a, b⟩
      omega
    · intro a
      subst a
      decide
  rw [e] at c
  exact c
theorem atMost_no (a b n : Int) (w : World) (h : (a == 0) = false) :
    Calls Try.prog 56 #[.agg #[.int .u64 a, .int .u64 b], .int .u64 n] w fun e w' => e = .returned (.bool false) ∧ Below w.heap.size w w' := by
  go_enter Try.func56, Try.ntmps56
  go_wp2
  go_ret
  exact ⟨rfl, single _ _⟩
theorem atMost_yes (b n : Int) (w : World) :
    Calls Try.prog 56 #[.agg #[.int .u64 0, .int .u64 b], .int .u64 n] w fun e w' => e = .returned (.bool (decide (b ≤ n))) ∧ Below w.heap.size w w' := by
  go_enter Try.func56, Try.ntmps56
  go_wp2
  go_ret
  exact ⟨rfl, single _ _⟩
theorem atMostW_any (N n : Int) (w : World) (h0 : 0 ≤ N) (h : n ≤ 18446744073709551615) :
    Calls Try.prog 56 #[wv N, .int .u64 n] w fun e w' => e = .returned (.bool (decide (N ≤ n))) ∧ Below w.heap.size w w' := by
  by_cases c : hiW N = 0
  · have e : decide (N ≤ n) = decide (loW N ≤ n) := decide_eq_decide.2 (by unfold hiW at c; unfold loW; omega)
    have g := atMost_yes (loW N) n w
    rw [e]
    simp only [wv]
    rw [c]
    exact g
  · have e : decide (N ≤ n) = false := by simp; unfold hiW at c; omega
    rw [e]
    exact atMost_no _ _ _ w (by simpa using c)
end Go.Proofs.Ytohkbjkfpnhggaa

/-
  The contracts of rat.hold, termsOf, opposite, times, add, sign and Right: signed numbers of 128 bits, terms of fractions, and whether a fraction is in lowest terms.
-/
namespace Go.Proofs.Ytohkbjkfpnhggaa
open Go.RowKit Go.Shelf
set_option linter.unusedVariables false

abbrev sv (N : Int) (g : Bool) : Value := .agg #[.int .u64 (hiW N), .int .u64 (loW N), .bool g]
abbrev tv (n d : Int) (g : Bool) : Value := .agg #[.int .u64 n, .int .u64 d, .bool g]
abbrev rv (n d : Int) : Value := .agg #[.int .i64 n, .int .i64 d]
theorem bcell {W w1 : World} (hb : Below W.heap.size W w1) : (∀ b o, b < W.heap.size → w1.cell? ⟨b, o, none⟩ = W.cell? ⟨b, o, none⟩) ∧ (∀ b o, b < W.heap.size → w1.frozen? ⟨b, o, none⟩ = W.frozen? ⟨b, o, none⟩) :=
  ⟨fun b o h => hb.cell (p := ⟨b, o, none⟩) h, fun b o h => hb.frozen (p := ⟨b, o, none⟩) h⟩

theorem set2 {w w1 : World} (hb : Below w.heap.size w w1) {b o1 o2 : Nat} (h : w.heap.size ≤ b) (u1 u2 : Value) : Below w.heap.size w ((w1.setCell ⟨b, o1, none⟩ u1).setCell ⟨b, o2, none⟩ u2) :=
  (hb.setCell h _).setCell h _
theorem set3 {w w1 : World} (hb : Below w.heap.size w w1) {b o1 o2 o3 : Nat} (h : w.heap.size ≤ b) (u1 u2 u3 : Value) : Below w.heap.size w (((w1.setCell ⟨b, o1, none⟩ u1).setCell ⟨b, o2, none⟩ u2).setCell ⟨b, o3, none⟩ u3) :=
  ((hb.setCell h _).setCell h _).setCell h _

def mostOf (g : Bool) : Int := if g then 9223372036854775808 else 9223372036854775807
/-- What atMost tells of a pair of words. -/
abbrev Asks (hi lo n : Int) (r : Bool) : Prop := ∀ w, Calls Try.prog 56 #[.agg #[.int .u64 hi, .int .u64 lo], .int .u64 n] w fun e w' => e = .returned (.bool r) ∧ Below w.heap.size w w'
set_option maxHeartbeats 1000000 in
theorem hold_over1 (hi lo dh dl : Int) (g : Bool) (w : World) (HA : Hid (Asks hi lo (mostOf g) false)) :
    Calls Try.prog 41 #[.agg #[.int .u64 hi, .int .u64 lo, .bool g], .agg #[.int .u64 dh, .int .u64 dl]] w fun e w' => e = .returned (.tuple #[rv 0 0, .int .i64 20]) ∧ Below w.heap.size w w' := by
  cases g
  all_goals
    go_enter Try.func41, Try.ntmps41
    go_wp2_with fail
    refine (HA.out _).mono ?_
    rintro e w1 ⟨rfl, h1⟩
    obtain ⟨hc, hf⟩ := bcell h1
    have hs := h1.size
    simp at hs
    go_wp2
    refine bodyPost_ret (v := .tuple #[rv 0 0, .int .i64 20]) (by simp [results, Try.results41, go_sem, hc]) rfl ⟨rfl, ?_⟩
    exact set2 (beyond (three w _ _ _) h1) (by omega) _ _
set_option maxHeartbeats 1000000 in
theorem hold_over2 (hi lo dh dl : Int) (g : Bool) (w : World) (HA : Hid (Asks hi lo (mostOf g) true)) (HB : Hid (Asks dh dl 9223372036854775807 false)) :
    Calls Try.prog 41 #[.agg #[.int .u64 hi, .int .u64 lo, .bool g], .agg #[.int .u64 dh, .int .u64 dl]] w fun e w' => e = .returned (.tuple #[rv 0 0, .int .i64 20]) ∧ Below w.heap.size w w' := by
  cases g
  all_goals
    go_enter Try.func41, Try.ntmps41
    go_wp2_with fail
    refine (HA.out _).mono ?_
    rintro e w1 ⟨rfl, h1⟩
    obtain ⟨hc, hf⟩ := bcell h1
    have hs := h1.size
    simp at hs
    go_wp2_with fail
    refine (HB.out _).mono ?_
    rintro e w2 ⟨rfl, h2⟩
    have h2 := beyond h1 h2
    clear hc hf hs
    obtain ⟨hc, hf⟩ := bcell h2
    have hs := h2.size
    simp at hs
    go_wp2
    refine bodyPost_ret (v := .tuple #[rv 0 0, .int .i64 20]) (by simp [results, Try.results41, go_sem, hc]) rfl ⟨rfl, ?_⟩
    exact set2 (beyond (three w _ _ _) h2) (by omega) _ _
set_option maxHeartbeats 1000000 in
theorem hold_ok (hi lo dh dl : Int) (g : Bool) (w : World) (HA : Hid (Asks hi lo (mostOf g) true)) (HB : Hid (Asks dh dl 9223372036854775807 true)) (l0 : 0 ≤ lo) (l1 : lo ≤ mostOf g) (d0 : 0 ≤ dl) (d1 : dl ≤ 9223372036854775807) :
    Calls Try.prog 41 #[.agg #[.int .u64 hi, .int .u64 lo, .bool g], .agg #[.int .u64 dh, .int .u64 dl]] w fun e w' => e = .returned (.tuple #[rv (if g then -lo else lo) dl, .int .i64 0]) ∧ Below w.heap.size w w' := by
  cases g
  · have l1 : lo ≤ 9223372036854775807 := l1
    have E : Hid ((if false = true then -lo else lo) = lo) := rfl
    rw [E.out]
    clear E
    go_enter Try.func41, Try.ntmps41
    go_wp2_with fail
    refine (HA.out _).mono ?_
    rintro e w1 ⟨rfl, h1⟩
    obtain ⟨hc, hf⟩ := bcell h1
    have hs := h1.size
    simp at hs
    go_wp2_with fail
    refine (HB.out _).mono ?_
    rintro e w2 ⟨rfl, h2⟩
    have h2 := beyond h1 h2
    clear hc hf hs
    obtain ⟨hc, hf⟩ := bcell h2
    have hs := h2.size
    simp at hs
    go_wp2
    refine bodyPost_ret (v := .tuple #[rv lo dl, .int .i64 0]) (by simp [results, Try.results41, go_sem, hc]) rfl ⟨rfl, ?_⟩
    exact set2 (beyond (three w _ _ _) h2) (by omega) _ _
  · have l1 : lo ≤ 9223372036854775808 := l1
    have E : Hid ((if true = true then -lo else lo) = -lo) := rfl
    rw [E.out]
    clear E
    have F : Hid (wrap64 (-(wrap64 lo)) = -lo) := by show wrap64 (-(wrap64 lo)) = -lo; unfold wrap64; omega
    go_enter Try.func41, Try.ntmps41
    go_wp2_with fail
    refine (HA.out _).mono ?_
    rintro e w1 ⟨rfl, h1⟩
    obtain ⟨hc, hf⟩ := bcell h1
    have hs := h1.size
    simp at hs
    go_wp2_with fail
    refine (HB.out _).mono ?_
    rintro e w2 ⟨rfl, h2⟩
    have h2 := beyond h1 h2
    clear hc hf hs
    obtain ⟨hc, hf⟩ := bcell h2
    have hs := h2.size
    simp at hs
    go_wp2
    rw [← F.out]
    refine bodyPost_ret (v := .tuple #[rv (wrap64 (-(wrap64 lo))) dl, .int .i64 0]) (by simp [results, Try.results41, go_sem, hc]) rfl ⟨rfl, ?_⟩
    exact set2 (beyond (three w _ _ _) h2) (by omega) _ _

/-- Can the fraction with these lowest terms be held? -/
def canHold (N D : Int) (g : Bool) : Bool := decide (N ≤ mostOf g) && decide (D ≤ 9223372036854775807)
def heldN (N D : Int) (g : Bool) : Int := if canHold N D g then (if g then -N else N) else 0
def heldD (N D : Int) (g : Bool) : Int := if canHold N D g then D else 0
def heldE (N D : Int) (g : Bool) : Int := if canHold N D g then 0 else 20
theorem hold_any (N D : Int) (g : Bool) (w : World) (hN : U128 N) (hD : U128 D) :
    Calls Try.prog 41 #[sv N g, wv D] w fun e w' => e = .returned (.tuple #[rv (heldN N D g) (heldD N D g), .int .i64 (heldE N D g)]) ∧ Below w.heap.size w w' := by
  have hm : mostOf g ≤ 18446744073709551615 := by unfold mostOf; split <;> decide
  have A : Asks (hiW N) (loW N) (mostOf g) (decide (N ≤ mostOf g)) := fun w => atMostW_any N (mostOf g) w hN.1 hm
  have B : Asks (hiW D) (loW D) 9223372036854775807 (decide (D ≤ 9223372036854775807)) := fun w => atMostW_any D 9223372036854775807 w hD.1 (by decide)
  by_cases c1 : N ≤ mostOf g
  · rw [decide_eq_true c1] at A
    by_cases c2 : D ≤ 9223372036854775807
    · rw [decide_eq_true c2] at B
      have c : canHold N D g = true := by simp [canHold, c1, c2]
      have n1 := lo_small hN.1 (by omega : N ≤ 18446744073709551615)
      have d1 := lo_small hD.1 (by omega : D ≤ 18446744073709551615)
      have h := hold_ok (hiW N) (loW N) (hiW D) (loW D) g w A B (lo_bd N).1 (by rw [n1]; exact c1) (lo_bd D).1 (by rw [d1]; exact c2)
      have e1 : heldN N D g = if g then -(loW N) else loW N := by simp [heldN, c, n1]
      have e2 : heldD N D g = loW D := by simp [heldD, c, d1]
      have e3 : heldE N D g = 0 := by simp [heldE, c]
      rw [e1, e2, e3]
      exact h
    · rw [decide_eq_false c2] at B
      have c : canHold N D g = false := by simp [canHold, c2]
      have e1 : heldN N D g = 0 := by simp [heldN, c]
      have e2 : heldD N D g = 0 := by simp [heldD, c]
      have e3 : heldE N D g = 20 := by simp [heldE, c]
      rw [e1, e2, e3]
      exact hold_over2 _ _ _ _ g w A B
  · rw [decide_eq_false c1] at A
    have c : canHold N D g = false := by simp [canHold, c1]
    have e1 : heldN N D g = 0 := by simp [heldN, c]
    have e2 : heldD N D g = 0 := by simp [heldD, c]
    have e3 : heldE N D g = 20 := by simp [heldE, c]
    rw [e1, e2, e3]
    exact hold_over1 _ _ _ _ g w A

/-! ### Right -/
def rightR (n d : Int) : Bool := decide (0 < d) && (gcdI (sz n) (sz d) == 1)
set_option maxHeartbeats 1000000 in
theorem rightR_any (n d : Int) (w : World) (n0 : -9223372036854775808 ≤ n) (n1 : n ≤ 9223372036854775807) (d0 : -9223372036854775808 ≤ d) (d1 : d ≤ 9223372036854775807) :
    Calls Try.prog 70 #[rv n d] w fun e w' => e = .returned (.bool (rightR n d)) ∧ Below w.heap.size w w' := by
  have bn := sz_bd n n0 n1
  have bd := sz_bd d d0 d1
  have hn : U64 (sz n) := ⟨bn.1, by omega⟩
  have hd : U64 (sz d) := ⟨bd.1, by omega⟩
  have HN := hideR hn
  have HD := hideR hd
  by_cases c : 0 < d
  · have e : rightR n d = (gcdI (sz n) (sz d) == 1) := by simp [rightR, c]
    rw [e]
    clear e hn hd bn bd
    go_enter Try.func70, Try.ntmps70
    go_wp2
    go_quiet ((first | (go_at_call 39; exact Calls.quiet_of_same (size_any _ _ (by assumption) (by assumption))) | (go_at_call 40; exact Calls.quiet_of (gcd_draws _ _ _ HN.out HD.out))))
    go_wp2
    go_ret
    exact ⟨rfl, below_drewN (single _ _) _⟩
  · have e : rightR n d = false := by simp [rightR, c]
    rw [e]
    have c' : decide (0 < d) = false := by simpa using c
    clear e hn hd bn bd c
    go_enter Try.func70, Try.ntmps70
    go_wp2
    go_quiet (fail)
    go_wp2
    go_ret
    exact ⟨rfl, below_drewN (single _ _) _⟩
end Go.Proofs.Ytohkbjkfpnhggaa

/-
  The contracts of rat.New, termsOf, opposite, times, add, sign and Compare.
-/
namespace Go.Proofs.Ytohkbjkfpnhggaa
open Go.RowKit Go.Shelf
set_option linter.unusedVariables false

theorem keep2 {W w1 : World} {b : Nat} {B : Nat} {W0 : World} {u v : Value} (h : Below B W0 W ∧ W.cell? ⟨b, 0, none⟩ = some u ∧ W.cell? ⟨b, 1, none⟩ = some v ∧ W.frozen? ⟨b, 0, none⟩ = false ∧ W.frozen? ⟨b, 1, none⟩ = false) (hB : B ≤ W.heap.size) (hb : Below W.heap.size W w1) :
    Below B W0 w1 ∧ w1.cell? ⟨b, 0, none⟩ = some u ∧ w1.cell? ⟨b, 1, none⟩ = some v ∧ w1.frozen? ⟨b, 0, none⟩ = false ∧ w1.frozen? ⟨b, 1, none⟩ = false := by
  obtain ⟨h0, h1, h2, h3, h4⟩ := h
  have l1 := World.block_lt_of_cell? _ _ h1
  have l2 := World.block_lt_of_cell? _ _ h2
  exact ⟨h0.trans (hb.mono hB), (hb.cell l1).trans h1, (hb.cell l2).trans h2, (hb.frozen l1).trans h3, (hb.frozen l2).trans h4⟩

theorem kc {W w1 : World} (a : Addr) (v : Value) (hb : Below W.heap.size W w1) (h : W.cell? a = some v) : w1.cell? a = some v := (hb.cell (World.block_lt_of_cell? _ _ h)).trans h
theorem kf {W w1 : World} (a : Addr) (v : Value) (hb : Below W.heap.size W w1) (h : W.cell? a = some v) (g : W.frozen? a = false) : w1.frozen? a = false := (hb.frozen (World.block_lt_of_cell? _ _ h)).trans g
theorem new_zero (n : Int) (w : World) :
    Calls Try.prog 22 #[.int .i64 n, .int .i64 0] w fun e w' => e = .returned (.tuple #[rv 0 0, .int .i64 21]) ∧ Below w.heap.size w w' := by
  go_enter Try.func22, Try.ntmps22
  go_wp2
  exact bodyPost_ret (v := .tuple #[rv 0 0, .int .i64 21]) (by simp [results, Try.results22, go_sem]) rfl ⟨rfl, by first | exact single _ _ | exact set2 (single _ _) (by omega) _ _⟩

theorem quo_eq (a g : Int) (a0 : 0 ≤ a) (a1 : a ≤ 18446744073709551615) (hg : 0 < g) : IntKind.u64.wrap (a.tdiv g) = a / g := by
  rw [Int.tdiv_eq_ediv_of_nonneg a0, IntKind.wrap_u64]
  have h1 := Int.ediv_nonneg a0 (Int.le_of_lt hg)
  have h2 : a / g ≤ a := Int.ediv_le_self g a0
  omega
set_option maxRecDepth 100000 in
set_option maxHeartbeats 4000000 in
theorem new_raw (n d a b g : Int) (s t : Bool) (w : World) (x y z : Int) (hs : decide (n < 0) = s) (ht : decide (d < 0) = t) (hd : (d == 0) = false) (hg : 0 < g) (ga : g ≤ 18446744073709551615) (a0 : 0 ≤ a) (a1 : a ≤ 18446744073709551615) (b0 : 0 ≤ b) (b1 : b ≤ 18446744073709551615)
    (HSn : Hid (∀ w, Calls Try.prog 39 #[.int .i64 n] w fun e w' => e = .returned (.int .u64 a) ∧ w' = w))
    (HSd : Hid (∀ w, Calls Try.prog 39 #[.int .i64 d] w fun e w' => e = .returned (.int .u64 b) ∧ w' = w))
    (HG : Hid (∀ w, Calls Try.prog 40 #[.int .u64 a, .int .u64 b] w fun e w' => e = .returned (.int .u64 g) ∧ ∃ m, w' = w.drewN m))
    (HNa : Hid (∀ w, Calls Try.prog 42 #[.int .u64 (a / g)] w fun e w' => e = .returned (.agg #[.int .u64 0, .int .u64 (a / g)]) ∧ Below w.heap.size w w'))
    (HNb : Hid (∀ w, Calls Try.prog 42 #[.int .u64 (b / g)] w fun e w' => e = .returned (.agg #[.int .u64 0, .int .u64 (b / g)]) ∧ Below w.heap.size w w'))
    (HH : Hid (∀ w, Calls Try.prog 41 #[.agg #[.int .u64 0, .int .u64 (a / g), .bool (s != t)], .agg #[.int .u64 0, .int .u64 (b / g)]] w fun e w' => e = .returned (.tuple #[rv x y, .int .i64 z]) ∧ Below w.heap.size w w')) :
    Calls Try.prog 22 #[.int .i64 n, .int .i64 d] w fun e w' => e = .returned (.tuple #[rv x y, .int .i64 z]) ∧ Below w.heap.size w w' := by
  have g0 : ¬ g = 0 := by omega
  have qa := quo_eq a g a0 a1 hg
  have qb := quo_eq b g b0 b1 hg
  clear hg ga a0 a1 b0 b1
  go_enter Try.func22, Try.ntmps22
  go_wp2_with fail
  refine (HSn.out _).mono ?_
  rintro e w' ⟨rfl, rfl⟩
  go_wp2_with fail
  refine (HSd.out _).mono ?_
  rintro e w' ⟨rfl, rfl⟩
  go_wp2_with fail
  refine (HG.out _).mono ?_
  rintro e w' ⟨rfl, m, rfl⟩
  go_wp2_with fail
  go_region_with (first
      | (go_at_call_of 42 (a / g); refine (HNa.out _).mono ?_; rintro e w' ⟨rfl, hb⟩; have f0 := kf ⟨w.heap.size, 0, none⟩ (.int .i64 0) hb (by first | assumption | simp [go_sem]) (by first | assumption | simp [go_sem]); have f1 := kf ⟨w.heap.size, 1, none⟩ (.int .i64 0) hb (by first | assumption | simp [go_sem]) (by first | assumption | simp [go_sem]); have c0 := kc ⟨w.heap.size, 0, none⟩ (.int .i64 0) hb (by first | assumption | simp [go_sem]); have c1 := kc ⟨w.heap.size, 1, none⟩ (.int .i64 0) hb (by first | assumption | simp [go_sem]); have hB := beyond (by first | assumption | exact below_drewN (single _ _) _) hb)
      | (go_at_call 42; refine (HNb.out _).mono ?_; rintro e w' ⟨rfl, hb⟩; have f0 := kf ⟨w.heap.size, 0, none⟩ (.int .i64 0) hb (by first | assumption | simp [go_sem]) (by first | assumption | simp [go_sem]); have f1 := kf ⟨w.heap.size, 1, none⟩ (.int .i64 0) hb (by first | assumption | simp [go_sem]) (by first | assumption | simp [go_sem]); have c0 := kc ⟨w.heap.size, 0, none⟩ (.int .i64 0) hb (by first | assumption | simp [go_sem]); have c1 := kc ⟨w.heap.size, 1, none⟩ (.int .i64 0) hb (by first | assumption | simp [go_sem]); have hB := beyond (by first | assumption | exact below_drewN (single _ _) _) hb)
      | (go_at_call 41; refine (HH.out _).mono ?_; rintro e w' ⟨rfl, hb⟩; have f0 := kf ⟨w.heap.size, 0, none⟩ (.int .i64 0) hb (by first | assumption | simp [go_sem]) (by first | assumption | simp [go_sem]); have f1 := kf ⟨w.heap.size, 1, none⟩ (.int .i64 0) hb (by first | assumption | simp [go_sem]) (by first | assumption | simp [go_sem]); have c0 := kc ⟨w.heap.size, 0, none⟩ (.int .i64 0) hb (by first | assumption | simp [go_sem]); have c1 := kc ⟨w.heap.size, 1, none⟩ (.int .i64 0) hb (by first | assumption | simp [go_sem]); have hB := beyond (by first | assumption | exact below_drewN (single _ _) _) hb))
  all_goals
    go_wp2
    refine bodyPost_ret (v := .tuple #[rv x y, .int .i64 z]) (by simp [results, Try.results22, go_sem, *]) rfl ⟨rfl, ?_⟩
    exact set2 (by assumption) (Nat.le_refl _) _ _
end Go.Proofs.Ytohkbjkfpnhggaa
