/-
  keeps of the law.
-/
import Derived.Test.YtjanibholjimkaaQ48
namespace Go.Proofs.Ytjanibholjimkaa
open Go.RowKit Go.Shelf Go.Deep
set_option linter.unusedVariables false
set_option maxRecDepth 100000
attribute [local go_sem] Oper.semAt_some
set_option maxHeartbeats 1000000 in
theorem keeps_raw (b v r n d : Int) (w : World) (hb : ¬ b = 2147483647) (e1 : IntKind.i64.wrap b = b) (e2 : IntKind.i64.wrap (b - b % 2) = b - b % 2) (e3 : (b - b % 2).tdiv 2 = v) (ev : IntKind.i64.wrap v = v)
    (H1 : Hid (∀ w, Calls Try.prog 6 #[.int .i64 v] w fun e w' => e = .returned (rv v 1) ∧ Below w.heap.size w w'))
    (H2 : Hid (∀ w, Calls Try.prog 33 #[rv n d, rv v 1] w fun e w' => e = .returned (.int .i64 r) ∧ Below w.heap.size w w')) :
    Calls Try.prog 12 #[.int .i32 b, rv n d] w fun e w' => e = .returned (.bool (decide (r < 0) || (decide (r = 0) && decide (b % 2 = 1)))) ∧ Below w.heap.size w w' := by
  have ea := i64_and1 b
  have c0 : (w.alloc (.cells #[.int .i64 n, .int .i64 d] 30)).cell? ⟨w.heap.size, 0, none⟩ = some (.int .i64 n) := by simp [go_sem]
  have c1 : (w.alloc (.cells #[.int .i64 n, .int .i64 d] 30)).cell? ⟨w.heap.size, 1, none⟩ = some (.int .i64 d) := by simp [go_sem]
  have B0 := hideD (single w (.cells #[.int .i64 n, .int .i64 d] 30))
  go_enter Try.func12, Try.ntmps12
  go_upto_region 4 with (fail)
  have BX := B0.out
  clear B0
  go_cut [6] (fun t w' => t = .int .i64 r ∧ Below w.heap.size w w')
  case first =>
    go_region_held3 (fun w' => w'.cell? ⟨w.heap.size, 0, none⟩ = some (.int .i64 n) ∧ w'.cell? ⟨w.heap.size, 1, none⟩ = some (.int .i64 d) ∧ Below w.heap.size w w')
      (first | exact ⟨by assumption, by assumption, by first | assumption | exact Below.drew (by assumption)⟩ | go_keep)
      (first
        | (go_at_call 6; refine (H1.out _).mono ?_; rintro e w' ⟨rfl, hb⟩; have v0 := kc ⟨w.heap.size, 0, none⟩ (.int .i64 n) hb (by first | assumption | simp [go_sem, *]); have v1 := kc ⟨w.heap.size, 1, none⟩ (.int .i64 d) hb (by first | assumption | simp [go_sem, *]); have hX := beyond (w := w) (by first | assumption | exact Below.drew (by assumption)) hb)
        | (go_at_call 33; refine (H2.out _).mono ?_; rintro e w' ⟨rfl, hb⟩; have v0 := kc ⟨w.heap.size, 0, none⟩ (.int .i64 n) hb (by first | assumption | simp [go_sem, *]); have v1 := kc ⟨w.heap.size, 1, none⟩ (.int .i64 d) hb (by first | assumption | simp [go_sem, *]); have hX := beyond (w := w) (by first | assumption | exact Below.drew (by assumption)) hb))
    all_goals go_wp2_with fail
    all_goals go_meet
    all_goals exact ⟨by first | rfl | simp [*], by assumption⟩
  case rest =>
    obtain ⟨rfl, HB⟩ := hcut
    clear H1 H2 e2 e3 ev c0 c1 BX hb
    by_cases r0 : r < 0
    · go_wp2_with fail
      go_ret
      exact ⟨by simp [r0], HB⟩
    · by_cases r1 : r = 0
      · subst r1
        by_cases o : b % 2 = 1
        · go_wp2_with fail
          go_ret
          exact ⟨by simp, HB⟩
        · go_wp2_with fail
          go_ret
          exact ⟨by simp [o], HB⟩
      · go_wp2_with fail
        go_ret
        exact ⟨by simp [r0], HB⟩
theorem keeps_any (b X n d : Int) (w : World) (h : Fr X n d) (b0 : -2147483648 ≤ b) (b1 : b ≤ 2147483647) : Calls Try.prog 12 #[.int .i32 b, rv n d] w fun e w' => e = .returned (.bool (keepT b n d)) ∧ Below w.heap.size w w' := by
  by_cases e : b = 2147483647
  · subst e
    have B0 := hideD (single w (.cells #[.int .i64 n, .int .i64 d] 30))
    go_enter Try.func12, Try.ntmps12
    go_wp2_with fail
    go_ret
    exact ⟨rfl, B0.out⟩
  · have r1 : rightR (b / 2) 1 = true := by unfold rightR gcdI; simp; unfold sz; simp
    have hv : (b - b % 2).tdiv 2 = b / 2 := by
      rw [show b - b % 2 = 2 * (b / 2) by omega, Int.mul_tdiv_cancel_left _ (by decide)]
    have := keeps_raw b (b / 2) (cmpV n d (b / 2) 1) n d w e (by rw [IntKind.wrap_i64]; omega) (by rw [IntKind.wrap_i64]; omega) hv (by rw [IntKind.wrap_i64]; omega) (fun w => ratOf_any _ w) (fun w => compare_right n d (b / 2) 1 w h.i1 h.i2 ⟨by omega, by omega⟩ ⟨by decide, by decide⟩ h.right r1)
    unfold keepT
    rw [if_neg e]
    exact this
end Go.Proofs.Ytjanibholjimkaa
