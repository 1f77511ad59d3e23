/-
  The contracts of rat.New, termsOf, opposite, times, add, sign and Compare.
-/
import Derived.Test.YtmpdicjjaoeblaaDoorRc
import Derived.Deep.RegionHeld3
namespace Go.Proofs.YtmpdicjjaoeblaaDoor
open Go.RowKit Go.Shelf
set_option linter.unusedVariables false

theorem keep2 {W w1 : World} {b : Nat} {B : Nat} {W0 : World} {u v : Value} (h : Below B W0 W ∧ W.cell? ⟨b, 0, none⟩ = some u ∧ W.cell? ⟨b, 1, none⟩ = some v ∧ W.frozen? ⟨b, 0, none⟩ = false ∧ W.frozen? ⟨b, 1, none⟩ = false) (hB : B ≤ W.heap.size) (hb : Below W.heap.size W w1) :
    Below B W0 w1 ∧ w1.cell? ⟨b, 0, none⟩ = some u ∧ w1.cell? ⟨b, 1, none⟩ = some v ∧ w1.frozen? ⟨b, 0, none⟩ = false ∧ w1.frozen? ⟨b, 1, none⟩ = false := by
  obtain ⟨h0, h1, h2, h3, h4⟩ := h
  have l1 := World.block_lt_of_cell? _ _ h1
  have l2 := World.block_lt_of_cell? _ _ h2
  exact ⟨h0.trans (hb.mono hB), (hb.cell l1).trans h1, (hb.cell l2).trans h2, (hb.frozen l1).trans h3, (hb.frozen l2).trans h4⟩

theorem kc {W w1 : World} (a : Addr) (v : Value) (hb : Below W.heap.size W w1) (h : W.cell? a = some v) : w1.cell? a = some v := (hb.cell (World.block_lt_of_cell? _ _ h)).trans h
theorem kf {W w1 : World} (a : Addr) (v : Value) (hb : Below W.heap.size W w1) (h : W.cell? a = some v) (g : W.frozen? a = false) : w1.frozen? a = false := (hb.frozen (World.block_lt_of_cell? _ _ h)).trans g
theorem new_zero (n : Int) (w : World) :
    Calls Tryd.prog 16 #[.int .i64 n, .int .i64 0] w fun e w' => e = .returned (.tuple #[rv 0 0, .int .i64 21]) ∧ Below w.heap.size w w' := by
  go_enter Tryd.func16, Tryd.ntmps16
  go_wp2
  exact bodyPost_ret (v := .tuple #[rv 0 0, .int .i64 21]) (by simp [results, Tryd.results16, go_sem]) rfl ⟨rfl, by first | exact single _ _ | exact set2 (single _ _) (by omega) _ _⟩

theorem quo_eq (a g : Int) (a0 : 0 ≤ a) (a1 : a ≤ 18446744073709551615) (hg : 0 < g) : IntKind.u64.wrap (a.tdiv g) = a / g := by
  rw [Int.tdiv_eq_ediv_of_nonneg a0, IntKind.wrap_u64]
  have h1 := Int.ediv_nonneg a0 (Int.le_of_lt hg)
  have h2 : a / g ≤ a := Int.ediv_le_self g a0
  omega
set_option maxRecDepth 100000 in
set_option maxHeartbeats 4000000 in
theorem new_raw (n d a b g : Int) (s t : Bool) (w : World) (x y z : Int) (hs : decide (n < 0) = s) (ht : decide (d < 0) = t) (hd : (d == 0) = false) (hg : 0 < g) (ga : g ≤ 18446744073709551615) (a0 : 0 ≤ a) (a1 : a ≤ 18446744073709551615) (b0 : 0 ≤ b) (b1 : b ≤ 18446744073709551615)
    (HSn : Hid (∀ w, Calls Tryd.prog 12 #[.int .i64 n] w fun e w' => e = .returned (.int .u64 a) ∧ w' = w))
    (HSd : Hid (∀ w, Calls Tryd.prog 12 #[.int .i64 d] w fun e w' => e = .returned (.int .u64 b) ∧ w' = w))
    (HG : Hid (∀ w, Calls Tryd.prog 11 #[.int .u64 a, .int .u64 b] w fun e w' => e = .returned (.int .u64 g) ∧ ∃ m, w' = w.drewN m))
    (HNa : Hid (∀ w, Calls Tryd.prog 25 #[.int .u64 (a / g)] w fun e w' => e = .returned (.agg #[.int .u64 0, .int .u64 (a / g)]) ∧ Below w.heap.size w w'))
    (HNb : Hid (∀ w, Calls Tryd.prog 25 #[.int .u64 (b / g)] w fun e w' => e = .returned (.agg #[.int .u64 0, .int .u64 (b / g)]) ∧ Below w.heap.size w w'))
    (HH : Hid (∀ w, Calls Tryd.prog 24 #[.agg #[.int .u64 0, .int .u64 (a / g), .bool (s != t)], .agg #[.int .u64 0, .int .u64 (b / g)]] w fun e w' => e = .returned (.tuple #[rv x y, .int .i64 z]) ∧ Below w.heap.size w w')) :
    Calls Tryd.prog 16 #[.int .i64 n, .int .i64 d] w fun e w' => e = .returned (.tuple #[rv x y, .int .i64 z]) ∧ Below w.heap.size w w' := by
  have g0 : ¬ g = 0 := by omega
  have qa := quo_eq a g a0 a1 hg
  have qb := quo_eq b g b0 b1 hg
  clear hg ga a0 a1 b0 b1
  go_enter Tryd.func16, Tryd.ntmps16
  go_wp2_with fail
  refine (HSn.out _).mono ?_
  rintro e w' ⟨rfl, rfl⟩
  go_wp2_with fail
  refine (HSd.out _).mono ?_
  rintro e w' ⟨rfl, rfl⟩
  go_wp2_with fail
  refine (HG.out _).mono ?_
  rintro e w' ⟨rfl, m, rfl⟩
  go_wp2_with fail
  go_region_with (first
      | (go_at_call_of 25 (a / g); refine (HNa.out _).mono ?_; rintro e w' ⟨rfl, hb⟩; have f0 := kf ⟨w.heap.size, 0, none⟩ (.int .i64 0) hb (by first | assumption | simp [go_sem]) (by first | assumption | simp [go_sem]); have f1 := kf ⟨w.heap.size, 1, none⟩ (.int .i64 0) hb (by first | assumption | simp [go_sem]) (by first | assumption | simp [go_sem]); have c0 := kc ⟨w.heap.size, 0, none⟩ (.int .i64 0) hb (by first | assumption | simp [go_sem]); have c1 := kc ⟨w.heap.size, 1, none⟩ (.int .i64 0) hb (by first | assumption | simp [go_sem]); have hB := beyond (by first | assumption | exact below_drewN (single _ _) _) hb)
      | (go_at_call 25; refine (HNb.out _).mono ?_; rintro e w' ⟨rfl, hb⟩; have f0 := kf ⟨w.heap.size, 0, none⟩ (.int .i64 0) hb (by first | assumption | simp [go_sem]) (by first | assumption | simp [go_sem]); have f1 := kf ⟨w.heap.size, 1, none⟩ (.int .i64 0) hb (by first | assumption | simp [go_sem]) (by first | assumption | simp [go_sem]); have c0 := kc ⟨w.heap.size, 0, none⟩ (.int .i64 0) hb (by first | assumption | simp [go_sem]); have c1 := kc ⟨w.heap.size, 1, none⟩ (.int .i64 0) hb (by first | assumption | simp [go_sem]); have hB := beyond (by first | assumption | exact below_drewN (single _ _) _) hb)
      | (go_at_call 24; refine (HH.out _).mono ?_; rintro e w' ⟨rfl, hb⟩; have f0 := kf ⟨w.heap.size, 0, none⟩ (.int .i64 0) hb (by first | assumption | simp [go_sem]) (by first | assumption | simp [go_sem]); have f1 := kf ⟨w.heap.size, 1, none⟩ (.int .i64 0) hb (by first | assumption | simp [go_sem]) (by first | assumption | simp [go_sem]); have c0 := kc ⟨w.heap.size, 0, none⟩ (.int .i64 0) hb (by first | assumption | simp [go_sem]); have c1 := kc ⟨w.heap.size, 1, none⟩ (.int .i64 0) hb (by first | assumption | simp [go_sem]); have hB := beyond (by first | assumption | exact below_drewN (single _ _) _) hb))
  all_goals
    go_wp2
    refine bodyPost_ret (v := .tuple #[rv x y, .int .i64 z]) (by simp [results, Tryd.results16, go_sem, *]) rfl ⟨rfl, ?_⟩
    exact set2 (by assumption) (Nat.le_refl _) _ _
end Go.Proofs.YtmpdicjjaoeblaaDoor
