/-
  The contracts of the smallest functions of package rat (size, gcd, narrow, product and the methods of numbers of 128 bits): for every argument each returns what the plain functions below say; nothing that was there turns.
-/
import Derived.Test.YtnfkmpickmonoaaGreatChecked
import Derived.WalkKit
import Derived.WalkLawsBesides
import Derived.Deep.QuietTactic
import Derived.BigQuiet
import Derived.Below
import Derived.WalkSmall
import Derived.Test.YtnfkmpickmonoaaGreatSc
import Derived.Shelf.Spec.BitsCarry
import Derived.WalkSpells
import Derived.Deep.RegionHeld3
namespace Go.Proofs.YtnfkmpickmonoaaGreat
open Go.RowKit
set_option linter.unusedVariables false

theorem hideR {p : Prop} (h : p) : Hid p := h
theorem beyond {w w1 w2 : World} (h1 : Below w.heap.size w w1) (h2 : Below w1.heap.size w1 w2) : Below w.heap.size w w2 := h1.trans (h2.mono h1.size)
theorem retI {k : IntKind} {a b : Int} (h : a = b) : Ending.returned (.int k a) = .returned (.int k b) := by rw [h]

/-- A number of 64 bits, not below 0. -/
abbrev U64 (x : Int) : Prop := 0 ≤ x ∧ x ≤ 18446744073709551615

/-! ### size -/
def sz (n : Int) : Int := if n < 0 then -n else n
theorem sz_bd (n : Int) (h0 : -9223372036854775808 ≤ n) (h1 : n ≤ 9223372036854775807) : 0 ≤ sz n ∧ sz n ≤ 9223372036854775808 := by unfold sz; split <;> omega
theorem sz_neg_eq (n : Int) (h : n < 0) (h0 : -9223372036854775808 ≤ n) : IntKind.u64.wrap (-IntKind.u64.wrap n) = -n := by
  rw [IntKind.wrap_u64, IntKind.wrap_u64]
  omega
theorem sz_pos_eq (n : Int) (h : 0 ≤ n) (h1 : n ≤ 9223372036854775807) : IntKind.u64.wrap n = n := by
  rw [IntKind.wrap_u64]
  omega
theorem size_any (n : Int) (w : World) (h0 : -9223372036854775808 ≤ n) (h1 : n ≤ 9223372036854775807) :
    Calls Tryz.prog 140 #[.int .i64 n] w fun e w' => e = .returned (.int .u64 (sz n)) ∧ w' = w := by
  by_cases h : n < 0
  · have e : sz n = -n := by simp [sz, h]
    rw [e]
    have E := hideR (sz_neg_eq n h h0)
    clear e
    go_enter Tryz.func140, Tryz.ntmps140
    go_wp2
    go_ret
    exact ⟨retI E.out, rfl⟩
  · have e : sz n = n := by simp [sz, h]
    rw [e]
    have E := hideR (sz_pos_eq n (by omega) h1)
    clear e
    go_enter Tryz.func140, Tryz.ntmps140
    go_wp2
    go_ret
    exact ⟨retI (by first | exact E.out | rfl), rfl⟩

/-! ### gcd -/
def gcdI (a b : Int) : Int := ((Nat.gcd a.toNat b.toNat : Nat) : Int)
theorem gcdI_zero (a : Int) (h : 0 ≤ a) : gcdI a 0 = a := by
  unfold gcdI
  simp
  omega
theorem gcdI_step (a b : Int) (ha : 0 ≤ a) (hb : 0 < b) : gcdI b (a % b) = gcdI a b := by
  unfold gcdI
  have e : (a % b).toNat = a.toNat % b.toNat := by
    obtain ⟨x, rfl⟩ := Int.eq_ofNat_of_zero_le ha
    obtain ⟨y, rfl⟩ := Int.eq_ofNat_of_zero_le (Int.le_of_lt hb)
    rw [← Int.natCast_emod]
    rfl
  rw [e, Nat.gcd_comm b.toNat, ← Nat.gcd_rec, Nat.gcd_comm]
set_option maxHeartbeats 400000 in
theorem gcd_draws (a b : Int) (w : World) (ha : U64 a) (hb : U64 b) :
    Calls Tryz.prog 139 #[.int .u64 a, .int .u64 b] w fun e w' => e = .returned (.int .u64 (gcdI a b)) ∧ ∃ m, w' = w.drewN m := by
  obtain ⟨a0, a1⟩ := ha
  obtain ⟨b0, b1⟩ := hb
  go_enter Tryz.func139, Tryz.ntmps139
  go_wp2_with fail
  go_loopw [0, 1] (fun s t wr => ∃ x y : Int, 0 ≤ x ∧ x ≤ 18446744073709551615 ∧ 0 ≤ y ∧ y ≤ 18446744073709551615 ∧ s = .int .u64 x ∧ t = .int .u64 y ∧ Hid (gcdI x y = gcdI a b) ∧ ∃ m, wr = w.drewN m) (fun _ t _ => (intOf t).toNat)
  case atStart => exact ⟨a, b, a0, a1, b0, b1, rfl, rfl, rfl, 0, rfl⟩
  case round =>
    obtain ⟨x, y, x0, x1, y0, y1, rfl, rfl, hg, m, rfl⟩ := hrel
    by_cases hy : y = 0
    · subst hy
      have E : Hid (x = gcdI a b) := by show x = gcdI a b; rw [← hg.out, gcdI_zero x x0]
      clear hg
      go_wp2_with fail
      go_ret
      exact ⟨retI E.out, _, rfl⟩
    · have hy' : (y != 0) = true := by simpa using hy
      have hyp : 0 < y := by omega
      have E : Hid (gcdI y (x % y) = gcdI a b) := by show gcdI y (x % y) = gcdI a b; rw [gcdI_step x y x0 hyp]; exact hg.out
      have m0 := Int.emod_nonneg x hy
      have m1 := Int.emod_lt_of_pos x hyp
      clear hg hy
      go_wp2_with fail
      go_quiet (fail)
      go_wp2
      go_roundw
      case rel => exact ⟨y, x % y, y0, y1, m0, by omega, rfl, rfl, E.out, _, World.drewN_drewN _ _ _⟩
      case measure => simp [intOf]; omega

/-! ### narrow -/
end Go.Proofs.YtnfkmpickmonoaaGreat

/-
  The contracts of the numbers of 128 bits of package rat: a pair of words stands for hi times 2^64 and lo; product, plus, minus, below, zero, atMost do what their names say where nothing goes round.
-/
namespace Go.Proofs.YtnfkmpickmonoaaGreat
open Go.RowKit Go.Shelf
set_option linter.unusedVariables false

def hiW (N : Int) : Int := N / 18446744073709551616
def loW (N : Int) : Int := N % 18446744073709551616
abbrev wv (N : Int) : Value := .agg #[.int .u64 (hiW N), .int .u64 (loW N)]
/-- A number of 128 bits, not below 0. -/
def U128 (N : Int) : Prop := 0 ≤ N ∧ N < 340282366920938463463374607431768211456
theorem hi_bd {N : Int} (h : U128 N) : 0 ≤ hiW N ∧ hiW N ≤ 18446744073709551615 := by unfold hiW; obtain ⟨_, _⟩ := h; omega
theorem lo_bd (N : Int) : 0 ≤ loW N ∧ loW N ≤ 18446744073709551615 := by unfold loW; omega
theorem hilo (N : Int) : N = hiW N * 18446744073709551616 + loW N := by unfold hiW loW; omega
theorem wv_mk {a b N : Int} (h : a = hiW N) (g : b = loW N) : Value.agg #[.int .u64 a, .int .u64 b] = wv N := by rw [h, g]

/-! ### product -/
theorem mul64 (x y : Int) (w : World) (hx : U64 x) (hy : U64 y) :
    Calls Tryz.prog 149 #[.int .u64 x, .int .u64 y] w fun e w' => e = .returned (.tuple #[.int .u64 (hiW (x * y)), .int .u64 (loW (x * y))]) ∧ w' = w := by
  obtain ⟨x0, x1⟩ := hx
  obtain ⟨y0, y1⟩ := hy
  obtain ⟨a, rfl⟩ := Int.eq_ofNat_of_zero_le x0
  obtain ⟨b, rfl⟩ := Int.eq_ofNat_of_zero_le y0
  have h := Go.Proofs.Tryz.bits_Mul64 a b (by omega) (by omega) w
  have e1 : ((a * b / 18446744073709551616 : Nat) : Int) = hiW ((a : Int) * (b : Int)) := by unfold hiW; rw [← Int.natCast_mul]; omega
  have e2 : ((a * b % 18446744073709551616 : Nat) : Int) = loW ((a : Int) * (b : Int)) := by unfold loW; rw [← Int.natCast_mul]; omega
  rw [e1, e2] at h
  exact h
theorem product_raw (x y a b : Int) (w : World) (H : Hid (∀ w, Calls Tryz.prog 149 #[.int .u64 x, .int .u64 y] w fun e w' => e = .returned (.tuple #[.int .u64 a, .int .u64 b]) ∧ w' = w)) :
    Calls Tryz.prog 150 #[.int .u64 x, .int .u64 y] w fun e w' => e = .returned (.agg #[.int .u64 a, .int .u64 b]) ∧ Below w.heap.size w w' := by
  go_enter Tryz.func150, Tryz.ntmps150
  go_wp2_with fail
  refine (H.out _).mono ?_
  rintro e w' ⟨rfl, rfl⟩
  go_wp2
  exact bodyPost_ret (v := .agg #[.int .u64 a, .int .u64 b]) (by simp [results, Tryz.results150, go_sem]) rfl ⟨rfl, (Below.refl _ _).alloc (Nat.le_refl _) _⟩
theorem product_any (x y : Int) (w : World) (hx : U64 x) (hy : U64 y) :
    Calls Tryz.prog 150 #[.int .u64 x, .int .u64 y] w fun e w' => e = .returned (wv (x * y)) ∧ Below w.heap.size w w' :=
  product_raw x y _ _ w (fun w => mul64 x y w hx hy)

/-! ### plus, minus -/
theorem add64R (x y c : Int) (hx : 0 ≤ x) (hy : 0 ≤ y) (hc0 : 0 ≤ c) (hc : c ≤ 1) (w : World) : (callFunc 156 #[.int .u64 x, .int .u64 y, .int .u64 c]).run Tryz.prog w =
    .ok (.value (.tuple #[.int .u64 ((x + y + c) % 18446744073709551616), .int .u64 ((x + y + c) / 18446744073709551616)])) w := by
  rw [run_callFunc_extern Tryz.func156 (by kernel_rfl) (by kernel_rfl) (by kernel_rfl) (e := add64Entry) (by kernel_rfl), run_add64 x y c hx hy hc0 hc]
  rfl
theorem sub64R (x y b : Int) (hx : 0 ≤ x) (hy : 0 ≤ y) (hy1 : y ≤ 18446744073709551615) (hb0 : 0 ≤ b) (hb : b ≤ 1) (w : World) : (callFunc 155 #[.int .u64 x, .int .u64 y, .int .u64 b]).run Tryz.prog w =
    .ok (.value (.tuple #[.int .u64 ((x - y - b) % 18446744073709551616), .int .u64 (if x < y + b then 1 else 0)])) w := by
  obtain ⟨x, rfl⟩ := Int.eq_ofNat_of_zero_le hx
  obtain ⟨y, rfl⟩ := Int.eq_ofNat_of_zero_le hy
  obtain ⟨b, rfl⟩ := Int.eq_ofNat_of_zero_le hb0
  have e1 : (((x + 18446744073709551616 - y - b) % 18446744073709551616 : Nat) : Int) = ((x : Int) - y - b) % 18446744073709551616 := by omega
  have e2 : ((if x < y + b then 1 else 0 : Nat) : Int) = if (x : Int) < y + b then 1 else 0 := by split <;> split <;> omega
  rw [← e1, ← e2, run_callFunc_extern Tryz.func155 (by kernel_rfl) (by kernel_rfl) (by kernel_rfl) (e := sub64Entry) (by kernel_rfl), run_sub64 x y b (by omega)]
  rfl
def cy (x y : Int) : Int := (x + y) / 18446744073709551616
def bw (x y : Int) : Int := if x < y then 1 else 0
def ad (x y c : Int) : Int := (x + y + c) % 18446744073709551616
def sb (x y c : Int) : Int := (x - y - c) % 18446744073709551616
def bw2 (x y c : Int) : Int := if x < y + c then 1 else 0
def cy2 (x y c : Int) : Int := (x + y + c) / 18446744073709551616
theorem add64_0 (x y : Int) (hx : 0 ≤ x) (hy : 0 ≤ y) (w : World) : (callFunc 156 #[.int .u64 x, .int .u64 y, .int .u64 0]).run Tryz.prog w =
    .ok (.value (.tuple #[.int .u64 (ad x y 0), .int .u64 (cy x y)])) w := by
  have := add64R x y 0 hx hy (Int.le_refl 0) (by decide) w
  rw [this]
  unfold ad cy
  rw [Int.add_zero]
theorem add64_c (x y c : Int) (hx : 0 ≤ x) (hy : 0 ≤ y) (hc0 : 0 ≤ c) (hc : c ≤ 1) (w : World) : (callFunc 156 #[.int .u64 x, .int .u64 y, .int .u64 c]).run Tryz.prog w =
    .ok (.value (.tuple #[.int .u64 (ad x y c), .int .u64 (cy2 x y c)])) w := add64R x y c hx hy hc0 hc w
theorem sub64_0 (x y : Int) (hx : 0 ≤ x) (hy : 0 ≤ y) (hy1 : y ≤ 18446744073709551615) (w : World) : (callFunc 155 #[.int .u64 x, .int .u64 y, .int .u64 0]).run Tryz.prog w =
    .ok (.value (.tuple #[.int .u64 (sb x y 0), .int .u64 (bw x y)])) w := by
  have := sub64R x y 0 hx hy hy1 (Int.le_refl 0) (by decide) w
  rw [this]
  unfold sb bw
  rw [Int.add_zero]
theorem sub64_c (x y c : Int) (hx : 0 ≤ x) (hy : 0 ≤ y) (hy1 : y ≤ 18446744073709551615) (hc0 : 0 ≤ c) (hc : c ≤ 1) (w : World) : (callFunc 155 #[.int .u64 x, .int .u64 y, .int .u64 c]).run Tryz.prog w =
    .ok (.value (.tuple #[.int .u64 (sb x y c), .int .u64 (bw2 x y c)])) w := sub64R x y c hx hy hy1 hc0 hc w
theorem three (w : World) (a b c : Obj) : Below w.heap.size w (((w.alloc a).alloc b).alloc c) :=
  ((((Below.refl _ _).alloc (Nat.le_refl _) _).alloc (by simp) _).alloc (by simp; omega) _)

set_option maxHeartbeats 400000 in
theorem plus_raw (ah al bh bl : Int) (w : World) (a0 : 0 ≤ ah) (a1 : 0 ≤ al) (b0 : 0 ≤ bh) (b1 : 0 ≤ bl) (k0 : 0 ≤ cy al bl) (k1 : cy al bl ≤ 1) :
    Calls Tryz.prog 151 #[.agg #[.int .u64 ah, .int .u64 al], .agg #[.int .u64 bh, .int .u64 bl]] w fun e w' => e = .returned (.agg #[.int .u64 (ad ah bh (cy al bl)), .int .u64 (ad al bl 0)]) ∧ Below w.heap.size w w' := by
  go_enter Tryz.func151, Tryz.ntmps151
  go_wp2_with (first | simp only [add64_0 al bl a1 b1] | simp only [add64_c ah bh _ a0 b0 k0 k1])
  exact bodyPost_ret (v := .agg #[.int .u64 (ad ah bh (cy al bl)), .int .u64 (ad al bl 0)]) (by simp [results, Tryz.results151, go_sem]) rfl ⟨rfl, three _ _ _ _⟩
set_option maxHeartbeats 400000 in
theorem minus_raw (ah al bh bl : Int) (w : World) (a0 : 0 ≤ ah) (a1 : 0 ≤ al) (b0 : 0 ≤ bh) (b1 : 0 ≤ bl) (b2 : bh ≤ 18446744073709551615) (b3 : bl ≤ 18446744073709551615) (k0 : 0 ≤ bw al bl) (k1 : bw al bl ≤ 1) :
    Calls Tryz.prog 153 #[.agg #[.int .u64 ah, .int .u64 al], .agg #[.int .u64 bh, .int .u64 bl]] w fun e w' => e = .returned (.agg #[.int .u64 (sb ah bh (bw al bl)), .int .u64 (sb al bl 0)]) ∧ Below w.heap.size w w' := by
  go_enter Tryz.func153, Tryz.ntmps153
  go_wp2_with (first | simp only [sub64_0 al bl a1 b1 b3] | simp only [sub64_c ah bh _ a0 b0 b2 k0 k1])
  exact bodyPost_ret (v := .agg #[.int .u64 (sb ah bh (bw al bl)), .int .u64 (sb al bl 0)]) (by simp [results, Tryz.results153, go_sem]) rfl ⟨rfl, three _ _ _ _⟩
theorem plus_any (M N : Int) (w : World) (hM : U128 M) (hN : U128 N) (h : U128 (M + N)) :
    Calls Tryz.prog 151 #[wv M, wv N] w fun e w' => e = .returned (wv (M + N)) ∧ Below w.heap.size w w' := by
  obtain ⟨m0, m1⟩ := hi_bd hM
  obtain ⟨n0, n1⟩ := hi_bd hN
  obtain ⟨p0, p1⟩ := lo_bd M
  obtain ⟨q0, q1⟩ := lo_bd N
  have c := plus_raw (hiW M) (loW M) (hiW N) (loW N) w m0 p0 n0 q0 (by unfold cy; omega) (by unfold cy; omega)
  have e : Value.agg #[.int .u64 (ad (hiW M) (hiW N) (cy (loW M) (loW N))), .int .u64 (ad (loW M) (loW N) 0)] = wv (M + N) := by
    obtain ⟨h0, h1⟩ := h
    apply wv_mk
    · unfold ad cy hiW loW; omega
    · unfold ad loW; omega
  rw [e] at c
  exact c
theorem minus_any (M N : Int) (w : World) (hM : U128 M) (hN : U128 N) (h : N ≤ M) :
    Calls Tryz.prog 153 #[wv M, wv N] w fun e w' => e = .returned (wv (M - N)) ∧ Below w.heap.size w w' := by
  obtain ⟨m0, m1⟩ := hi_bd hM
  obtain ⟨n0, n1⟩ := hi_bd hN
  obtain ⟨p0, p1⟩ := lo_bd M
  obtain ⟨q0, q1⟩ := lo_bd N
  have c := minus_raw (hiW M) (loW M) (hiW N) (loW N) w m0 p0 n0 q0 n1 q1 (by unfold bw; split <;> decide) (by unfold bw; split <;> decide)
  have e : Value.agg #[.int .u64 (sb (hiW M) (hiW N) (bw (loW M) (loW N))), .int .u64 (sb (loW M) (loW N) 0)] = wv (M - N) := by
    obtain ⟨h0, h1⟩ := hM
    obtain ⟨g0, g1⟩ := hN
    apply wv_mk
    · unfold sb bw hiW loW; split <;> omega
    · unfold sb loW; omega
  rw [e] at c
  exact c

/-! ### below, zero, atMost -/
theorem two (w : World) (a b : Obj) : Below w.heap.size w ((w.alloc a).alloc b) := (((Below.refl _ _).alloc (Nat.le_refl _) _).alloc (by simp) _)
theorem single (w : World) (a : Obj) : Below w.heap.size w (w.alloc a) := (Below.refl _ _).alloc (Nat.le_refl _) _
theorem below_lt (a b c d : Int) (w : World) (h : a < c) :
    Calls Tryz.prog 152 #[.agg #[.int .u64 a, .int .u64 b], .agg #[.int .u64 c, .int .u64 d]] w fun e w' => e = .returned (.bool true) ∧ Below w.heap.size w w' := by
  go_enter Tryz.func152, Tryz.ntmps152
  go_wp2
  go_ret
  exact ⟨rfl, two _ _ _⟩
theorem below_gt (a b c d : Int) (w : World) (h : c < a) :
    Calls Tryz.prog 152 #[.agg #[.int .u64 a, .int .u64 b], .agg #[.int .u64 c, .int .u64 d]] w fun e w' => e = .returned (.bool false) ∧ Below w.heap.size w w' := by
  have h1 : decide (a < c) = false := by simp; omega
  have h2 : (a == c) = false := by simp; omega
  go_enter Tryz.func152, Tryz.ntmps152
  go_wp2
  go_ret
  exact ⟨rfl, two _ _ _⟩
theorem below_eq (a b d : Int) (w : World) :
    Calls Tryz.prog 152 #[.agg #[.int .u64 a, .int .u64 b], .agg #[.int .u64 a, .int .u64 d]] w fun e w' => e = .returned (.bool (decide (b < d))) ∧ Below w.heap.size w w' := by
  have h1 : decide (a < a) = false := by simp
  go_enter Tryz.func152, Tryz.ntmps152
  go_wp2
  go_ret
  exact ⟨rfl, two _ _ _⟩
theorem below_any (M N : Int) (w : World) :
    Calls Tryz.prog 152 #[wv M, wv N] w fun e w' => e = .returned (.bool (decide (M < N))) ∧ Below w.heap.size w w' := by
  have k1 : hiW M < hiW N → M < N := by unfold hiW; omega
  have k2 : hiW M = hiW N → (M < N ↔ loW M < loW N) := by unfold hiW loW; omega
  have k3 : hiW N < hiW M → ¬ M < N := by unfold hiW; omega
  by_cases c1 : hiW M < hiW N
  · have e : decide (M < N) = true := by simpa using k1 c1
    rw [e]
    exact below_lt _ _ _ _ w c1
  · by_cases c2 : hiW N < hiW M
    · have e : decide (M < N) = false := by simpa using k3 c2
      rw [e]
      exact below_gt _ _ _ _ w c2
    · have c3 : hiW M = hiW N := by omega
      have e : decide (M < N) = decide (loW M < loW N) := decide_eq_decide.2 (k2 c3)
      have g := below_eq (hiW M) (loW M) (loW N) w
      rw [e]
      simp only [wv]
      rw [← c3]
      exact g
theorem zero_raw (a b : Int) (w : World) :
    Calls Tryz.prog 154 #[.agg #[.int .u64 a, .int .u64 b]] w fun e w' => e = .returned (.bool (a == 0 && b == 0)) ∧ Below w.heap.size w w' := by
  go_enter Tryz.func154, Tryz.ntmps154
  go_wp2
  all_goals go_ret
  all_goals exact ⟨by simp_all, single _ _⟩
theorem zero_any (N : Int) (w : World) (h : U128 N) :
    Calls Tryz.prog 154 #[wv N] w fun e w' => e = .returned (.bool (decide (N = 0))) ∧ Below w.heap.size w w' := by
  have c := zero_raw (hiW N) (loW N) w
  have e : (hiW N == 0 && loW N == 0) = decide (N = 0) := by
    have := hilo N
    rw [Bool.eq_iff_iff]
    simp
    constructor
    · rintro ⟨a, b⟩
      omega
    · intro a
      subst a
      decide
  rw [e] at c
  exact c
end Go.Proofs.YtnfkmpickmonoaaGreat

/-
  The contracts of rat.hold, termsOf, opposite, times, add, sign and Right: signed numbers of 128 bits, terms of fractions, and whether a fraction is in lowest terms.
-/
namespace Go.Proofs.YtnfkmpickmonoaaGreat
open Go.RowKit Go.Shelf
set_option linter.unusedVariables false

abbrev sv (N : Int) (g : Bool) : Value := .agg #[.int .u64 (hiW N), .int .u64 (loW N), .bool g]
abbrev tv (n d : Int) (g : Bool) : Value := .agg #[.int .u64 n, .int .u64 d, .bool g]
abbrev rv (n d : Int) : Value := .agg #[.int .i64 n, .int .i64 d]
theorem bcell {W w1 : World} (hb : Below W.heap.size W w1) : (∀ b o, b < W.heap.size → w1.cell? ⟨b, o, none⟩ = W.cell? ⟨b, o, none⟩) ∧ (∀ b o, b < W.heap.size → w1.frozen? ⟨b, o, none⟩ = W.frozen? ⟨b, o, none⟩) :=
  ⟨fun b o h => hb.cell (p := ⟨b, o, none⟩) h, fun b o h => hb.frozen (p := ⟨b, o, none⟩) h⟩

theorem set2 {w w1 : World} (hb : Below w.heap.size w w1) {b o1 o2 : Nat} (h : w.heap.size ≤ b) (u1 u2 : Value) : Below w.heap.size w ((w1.setCell ⟨b, o1, none⟩ u1).setCell ⟨b, o2, none⟩ u2) :=
  (hb.setCell h _).setCell h _
theorem set3 {w w1 : World} (hb : Below w.heap.size w w1) {b o1 o2 o3 : Nat} (h : w.heap.size ≤ b) (u1 u2 u3 : Value) : Below w.heap.size w (((w1.setCell ⟨b, o1, none⟩ u1).setCell ⟨b, o2, none⟩ u2).setCell ⟨b, o3, none⟩ u3) :=
  ((hb.setCell h _).setCell h _).setCell h _

/-! ### Right -/
def rightR (n d : Int) : Bool := decide (0 < d) && (gcdI (sz n) (sz d) == 1)
set_option maxHeartbeats 1000000 in
theorem rightR_any (n d : Int) (w : World) (n0 : -9223372036854775808 ≤ n) (n1 : n ≤ 9223372036854775807) (d0 : -9223372036854775808 ≤ d) (d1 : d ≤ 9223372036854775807) :
    Calls Tryz.prog 129 #[rv n d] w fun e w' => e = .returned (.bool (rightR n d)) ∧ Below w.heap.size w w' := by
  have bn := sz_bd n n0 n1
  have bd := sz_bd d d0 d1
  have hn : U64 (sz n) := ⟨bn.1, by omega⟩
  have hd : U64 (sz d) := ⟨bd.1, by omega⟩
  have HN := hideR hn
  have HD := hideR hd
  by_cases c : 0 < d
  · have e : rightR n d = (gcdI (sz n) (sz d) == 1) := by simp [rightR, c]
    rw [e]
    clear e hn hd bn bd
    go_enter Tryz.func129, Tryz.ntmps129
    go_wp2
    go_quiet ((first | (go_at_call 140; exact Calls.quiet_of_same (size_any _ _ (by assumption) (by assumption))) | (go_at_call 139; exact Calls.quiet_of (gcd_draws _ _ _ HN.out HD.out))))
    go_wp2
    go_ret
    exact ⟨rfl, below_drewN (single _ _) _⟩
  · have e : rightR n d = false := by simp [rightR, c]
    rw [e]
    have c' : decide (0 < d) = false := by simpa using c
    clear e hn hd bn bd c
    go_enter Tryz.func129, Tryz.ntmps129
    go_wp2
    go_quiet (fail)
    go_wp2
    go_ret
    exact ⟨rfl, below_drewN (single _ _) _⟩
end Go.Proofs.YtnfkmpickmonoaaGreat

/-
  The contracts of rat.New, termsOf, opposite, times, add, sign and Compare.
-/
namespace Go.Proofs.YtnfkmpickmonoaaGreat
open Go.RowKit Go.Shelf
set_option linter.unusedVariables false

theorem kc {W w1 : World} (a : Addr) (v : Value) (hb : Below W.heap.size W w1) (h : W.cell? a = some v) : w1.cell? a = some v := (hb.cell (World.block_lt_of_cell? _ _ h)).trans h
theorem kf {W w1 : World} (a : Addr) (v : Value) (hb : Below W.heap.size W w1) (h : W.cell? a = some v) (g : W.frozen? a = false) : w1.frozen? a = false := (hb.frozen (World.block_lt_of_cell? _ _ h)).trans g
end Go.Proofs.YtnfkmpickmonoaaGreat
