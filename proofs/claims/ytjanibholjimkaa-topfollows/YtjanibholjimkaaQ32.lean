/-
  The contracts of the smallest functions of package rat (size, gcd, narrow, product and the methods of numbers of 128 bits): for every argument each returns what the plain functions below say; nothing that was there turns.
-/
import Derived.Test.YtjanibholjimkaaChecked
import Derived.WalkKit
import Derived.WalkLawsBesides
import Derived.Deep.QuietTactic
import Derived.BigQuiet
import Derived.Below
import Derived.WalkSmall
namespace Go.Proofs.Ytjanibholjimkaa
open Go.RowKit
set_option linter.unusedVariables false

theorem hideR {p : Prop} (h : p) : Hid p := h
theorem beyond {w w1 w2 : World} (h1 : Below w.heap.size w w1) (h2 : Below w1.heap.size w1 w2) : Below w.heap.size w w2 := h1.trans (h2.mono h1.size)
theorem retI {k : IntKind} {a b : Int} (h : a = b) : Ending.returned (.int k a) = .returned (.int k b) := by rw [h]

/-- A number of 64 bits, not below 0. -/
abbrev U64 (x : Int) : Prop := 0 ≤ x ∧ x ≤ 18446744073709551615

/-! ### size -/
def sz (n : Int) : Int := if n < 0 then -n else n
theorem sz_bd (n : Int) (h0 : -9223372036854775808 ≤ n) (h1 : n ≤ 9223372036854775807) : 0 ≤ sz n ∧ sz n ≤ 9223372036854775808 := by unfold sz; split <;> omega
theorem sz_neg_eq (n : Int) (h : n < 0) (h0 : -9223372036854775808 ≤ n) : IntKind.u64.wrap (-IntKind.u64.wrap n) = -n := by
  rw [IntKind.wrap_u64, IntKind.wrap_u64]
  omega
theorem sz_pos_eq (n : Int) (h : 0 ≤ n) (h1 : n ≤ 9223372036854775807) : IntKind.u64.wrap n = n := by
  rw [IntKind.wrap_u64]
  omega
theorem size_any (n : Int) (w : World) (h0 : -9223372036854775808 ≤ n) (h1 : n ≤ 9223372036854775807) :
    Calls Try.prog 23 #[.int .i64 n] w fun e w' => e = .returned (.int .u64 (sz n)) ∧ w' = w := by
  by_cases h : n < 0
  · have e : sz n = -n := by simp [sz, h]
    rw [e]
    have E := hideR (sz_neg_eq n h h0)
    clear e
    go_enter Try.func23, Try.ntmps23
    go_wp2
    go_ret
    exact ⟨retI E.out, rfl⟩
  · have e : sz n = n := by simp [sz, h]
    rw [e]
    have E := hideR (sz_pos_eq n (by omega) h1)
    clear e
    go_enter Try.func23, Try.ntmps23
    go_wp2
    go_ret
    exact ⟨retI (by first | exact E.out | rfl), rfl⟩

/-! ### gcd -/
def gcdI (a b : Int) : Int := ((Nat.gcd a.toNat b.toNat : Nat) : Int)
theorem gcdI_zero (a : Int) (h : 0 ≤ a) : gcdI a 0 = a := by
  unfold gcdI
  simp
  omega
theorem gcdI_step (a b : Int) (ha : 0 ≤ a) (hb : 0 < b) : gcdI b (a % b) = gcdI a b := by
  unfold gcdI
  have e : (a % b).toNat = a.toNat % b.toNat := by
    obtain ⟨x, rfl⟩ := Int.eq_ofNat_of_zero_le ha
    obtain ⟨y, rfl⟩ := Int.eq_ofNat_of_zero_le (Int.le_of_lt hb)
    rw [← Int.natCast_emod]
    rfl
  rw [e, Nat.gcd_comm b.toNat, ← Nat.gcd_rec, Nat.gcd_comm]
set_option maxHeartbeats 400000 in
theorem gcd_draws (a b : Int) (w : World) (ha : U64 a) (hb : U64 b) :
    Calls Try.prog 22 #[.int .u64 a, .int .u64 b] w fun e w' => e = .returned (.int .u64 (gcdI a b)) ∧ ∃ m, w' = w.drewN m := by
  obtain ⟨a0, a1⟩ := ha
  obtain ⟨b0, b1⟩ := hb
  go_enter Try.func22, Try.ntmps22
  go_wp2_with fail
  go_loopw [0, 1] (fun s t wr => ∃ x y : Int, 0 ≤ x ∧ x ≤ 18446744073709551615 ∧ 0 ≤ y ∧ y ≤ 18446744073709551615 ∧ s = .int .u64 x ∧ t = .int .u64 y ∧ Hid (gcdI x y = gcdI a b) ∧ ∃ m, wr = w.drewN m) (fun _ t _ => (intOf t).toNat)
  case atStart => exact ⟨a, b, a0, a1, b0, b1, rfl, rfl, rfl, 0, rfl⟩
  case round =>
    obtain ⟨x, y, x0, x1, y0, y1, rfl, rfl, hg, m, rfl⟩ := hrel
    by_cases hy : y = 0
    · subst hy
      have E : Hid (x = gcdI a b) := by show x = gcdI a b; rw [← hg.out, gcdI_zero x x0]
      clear hg
      go_wp2_with fail
      go_ret
      exact ⟨retI E.out, _, rfl⟩
    · have hy' : (y != 0) = true := by simpa using hy
      have hyp : 0 < y := by omega
      have E : Hid (gcdI y (x % y) = gcdI a b) := by show gcdI y (x % y) = gcdI a b; rw [gcdI_step x y x0 hyp]; exact hg.out
      have m0 := Int.emod_nonneg x hy
      have m1 := Int.emod_lt_of_pos x hyp
      clear hg hy
      go_wp2_with fail
      go_quiet (fail)
      go_wp2
      go_roundw
      case rel => exact ⟨y, x % y, y0, y1, m0, by omega, rfl, rfl, E.out, _, World.drewN_drewN _ _ _⟩
      case measure => simp [intOf]; omega

/-! ### narrow -/
end Go.Proofs.Ytjanibholjimkaa
