/-
  The contracts of used, at, hollow, nowhereLess, zone.
-/
import Derived.Test.YtjanibholjimkaaQ3
namespace Go.Proofs.Ytjanibholjimkaa
open Go.RowKit
set_option linter.unusedVariables false
set_option maxRecDepth 100000
theorem used_raw (b : Nat) (n s : Int) (q : Nat) (w : World) (hc : w.cell? ⟨b, 0, none⟩ = some (.int .i64 n)) (e : IntKind.i64.wrap (s * s) = (q : Int)) (q1 : q ≤ 81)
    (HS : Hid (∀ w, Calls Try.prog 57 #[.agg #[.int .i64 n]] w fun e w' => e = .returned (.int .i64 s) ∧ Below w.heap.size w w')) :
    Calls Try.prog 40 #[.pointer (some ⟨b, 0, none⟩)] w fun e w' => e = .returned (.slice (some ⟨b, 1, none⟩) q 81) ∧ Below w.heap.size w w' := by
  have AL : Try.prog.arrayLen 81 = 81 := by kernel_rfl
  have q2 : (0 : Int) ≤ (q : Int) := by omega
  have q3 : (q : Int) ≤ 81 := by omega
  go_enter Try.func40, Try.ntmps40
  go_wp2_with fail
  go_region_held3 (fun w' => Below w.heap.size w w' ∧ w'.cell? ⟨b, 0, none⟩ = some (.int .i64 n))
    (first | exact ⟨by first | assumption | exact Below.refl _ _ | exact Below.drew (Below.refl _ _), by first | assumption | simp [go_sem, *]⟩ | go_keep)
    (first | (go_at_call 57; refine (HS.out _).mono ?_; rintro e' w' ⟨rfl, hb⟩; have s0 := kc ⟨b, 0, none⟩ (.int .i64 n) hb (by first | assumption | simp [go_sem, *]); have s1 := beyondD (w := w) (by first | assumption | exact Below.refl _ _ | exact Below.drew (Below.refl _ _)) hb))
  all_goals
    go_wp2
    go_ret
    exact ⟨rfl, by assumption⟩
theorem used_any (b n : Nat) (w : World) (h : n ≤ 8) (hc : w.cell? ⟨b, 0, none⟩ = some (.int .i64 n)) :
    Calls Try.prog 40 #[.pointer (some ⟨b, 0, none⟩)] w fun e w' => e = .returned (.slice (some ⟨b, 1, none⟩) ((n + 1) * (n + 1)) 81) ∧ Below w.heap.size w w' := by
  have q : (n + 1) * (n + 1) ≤ 81 := Nat.mul_le_mul (show n + 1 ≤ 9 by omega) (show n + 1 ≤ 9 by omega)
  refine used_raw b n ((n + 1 : Nat) : Int) _ w hc ?_ q (fun w => side_any n w h)
  rw [← Int.natCast_mul]
  generalize (n + 1) * (n + 1) = z at *
  rw [IntKind.wrap_i64]
  omega
theorem at_raw (b k : Nat) (n s i j v : Int) (w : World) (hc : w.cell? ⟨b, 0, none⟩ = some (.int .i64 n)) (hv : w.cell? ⟨b, 1 + k, none⟩ = some (.int .i32 v)) (hk : k < 81)
    (e : IntKind.i64.wrap (IntKind.i64.wrap (i * s) + j) = (k : Int))
    (HS : Hid (∀ w, Calls Try.prog 57 #[.agg #[.int .i64 n]] w fun e w' => e = .returned (.int .i64 s) ∧ Below w.heap.size w w')) :
    Calls Try.prog 54 #[.pointer (some ⟨b, 0, none⟩), .int .i64 i, .int .i64 j] w fun e w' => e = .returned (.int .i32 v) ∧ Below w.heap.size w w' := by
  have k0 : (0 : Int) ≤ (k : Int) := by omega
  have k1 : (k : Int) < 81 := by omega
  go_enter Try.func54, Try.ntmps54
  go_wp2_with fail
  go_region_held3 (fun w' => Below w.heap.size w w' ∧ w'.cell? ⟨b, 0, none⟩ = some (.int .i64 n) ∧ w'.cell? ⟨b, 1 + k, none⟩ = some (.int .i32 v))
    (first | exact ⟨by first | assumption | exact Below.refl _ _ | exact Below.drew (Below.refl _ _), by first | assumption | simp [go_sem, *], by first | assumption | simp [go_sem, *]⟩ | go_keep)
    (first | (go_at_call 57; refine (HS.out _).mono ?_; rintro e' w' ⟨rfl, hb⟩; have s0 := kc ⟨b, 0, none⟩ (.int .i64 n) hb (by first | assumption | simp [go_sem, *]); have s2 := kc ⟨b, 1 + k, none⟩ (.int .i32 v) hb (by first | assumption | simp [go_sem, *]); have s1 := beyondD (w := w) (by first | assumption | exact Below.refl _ _ | exact Below.drew (Below.refl _ _)) hb))
  all_goals
    go_wp2
    go_ret
    exact ⟨rfl, by assumption⟩
theorem at_any (b n i j : Nat) (c : Row) (w : World) (h : n ≤ 8) (hi : i ≤ n) (hj : j ≤ n) (hz : ZoneAt w b n c) :
    Calls Try.prog 54 #[.pointer (some ⟨b, 0, none⟩), .int .i64 i, .int .i64 j] w fun e w' => e = .returned (.int .i32 (c (i * (n + 1) + j))) ∧ Below w.heap.size w w' := by
  have hk : i * (n + 1) + j < 81 := by
    have : i * (n + 1) ≤ 8 * 9 := Nat.mul_le_mul (by omega) (by omega)
    omega
  refine at_raw b (i * (n + 1) + j) n ((n + 1 : Nat) : Int) i j _ w hz.clocks (hz.cell _ hk) hk ?_ (fun w => side_any n w h)
  rw [← Int.natCast_mul]
  generalize i * (n + 1) = z at *
  rw [IntKind.wrap_i64, IntKind.wrap_i64]
  omega
theorem hollow_raw (b : Nat) (v : Int) (w : World) (H : Hid (∀ w', Below w.heap.size w w' → Calls Try.prog 54 #[.pointer (some ⟨b, 0, none⟩), .int .i64 0, .int .i64 0] w' fun e w'' => e = .returned (.int .i32 v) ∧ Below w'.heap.size w' w'')) :
    Calls Try.prog 36 #[.pointer (some ⟨b, 0, none⟩)] w fun e w' => e = .returned (.bool (decide (v < 1))) ∧ Below w.heap.size w w' := by
  go_enter Try.func36, Try.ntmps36
  go_wp2_with fail
  refine (H.out _ (Below.refl _ _)).mono ?_
  rintro e w' ⟨rfl, hb⟩
  go_wp2
  go_ret
  exact ⟨rfl, hb⟩
theorem hollow_any (b n : Nat) (c : Row) (w : World) (h : n ≤ 8) (hz : ZoneAt w b n c) :
    Calls Try.prog 36 #[.pointer (some ⟨b, 0, none⟩)] w fun e w' => e = .returned (.bool (decide (c 0 < 1))) ∧ Below w.heap.size w w' := by
  refine hollow_raw b (c 0) w fun w' hb => ?_
  have := at_any b n 0 0 c w' h (by omega) (by omega) (hz.past hb)
  simpa using this
/-! ### nowhereLess -/
/-! ### zone -/
/-- The cells of a closed draft, row by row. -/
def flat (n : Nat) (r : Mat) : Row := fun k => r (k / (n + 1)) (k % (n + 1))
def cellsUpto (n : Nat) (r : Mat) (m : Nat) : Row := fun k => if k < m then narB (flat n r k) else 0
def narAll (n : Nat) (r : Mat) : Nat → Bool
  | 0 => true
  | k + 1 => narAll n r k && narOk (flat n r k)
theorem narAll_false {n : Nat} {r : Mat} : ∀ {k : Nat} (m : Nat), k ≤ m → narAll n r k = false → narAll n r m = false := by
  intro k m h e
  induction m with
  | zero => obtain rfl : k = 0 := by omega
            exact e
  | succ m ih =>
    by_cases q : k = m + 1
    · subst q; exact e
    · simp [narAll, ih (by omega)]
/-- What becomes of a draft: none: nothing (ErrBound); some cells: a zone. -/
def zoneR (n : Nat) (r : Mat) : Option Row :=
  match closeR n r with
  | none => some (fun _ => 0)
  | some p => if narAll n p ((n + 1) * (n + 1)) then some (cellsUpto n p ((n + 1) * (n + 1))) else none
theorem cells_next (n : Nat) (r : Mat) (m : Nat) : updR (cellsUpto n r m) m (narB (flat n r m)) = cellsUpto n r (m + 1) := by
  funext a
  unfold updR cellsUpto
  by_cases e : a = m
  · subst e; simp
  · rw [if_neg e]
    congr 1
    apply propext
    omega
theorem zone_none (b n : Nat) (r : Mat) (w : World) (h : n ≤ 8) (hD : Draft w b n r) (e : closeR n r = none) :
    Calls Try.prog 20 #[.pointer (some ⟨b, 0, none⟩)] w fun e w' => ∃ b', w.heap.size ≤ b' ∧ e = .returned (.tuple #[.pointer (some ⟨b', 0, none⟩), .int .i64 0]) ∧ ZoneAt w' b' n (fun _ => 0) ∧ Below b w w' := by
  have HC := hideD (close_any b n r w h hD)
  rw [e] at HC
  go_enter Try.func20, Try.ntmps20
  go_wp2_with fail
  refine HC.out.mono ?_
  rintro e' w1 ⟨rfl, hb, s, hs, -⟩
  have hcl := hs.clocks
  go_wp2_with fail
  refine (none_any n _).mono ?_
  rintro e' w2 ⟨rfl, hz, hb2, hs2⟩
  go_wp2_with fail
  refine bodyPost_ret (v := .tuple #[.pointer (some ⟨w1.heap.size, 0, none⟩), .int .i64 0]) (by simp [results, Try.results20, go_sem]) rfl ⟨w1.heap.size, hb.size, rfl, hz, hb.trans (hb2.mono (Nat.le_of_lt hs.lt))⟩
end Go.Proofs.Ytjanibholjimkaa
