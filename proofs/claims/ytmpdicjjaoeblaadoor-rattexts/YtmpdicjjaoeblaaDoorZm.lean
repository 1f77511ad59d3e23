/-
  The walk of the statement RatTexts.
-/
import Derived.Test.YtmpdicjjaoeblaaDoorZl
import Derived.Test.YtmpdicjjaoeblaaDoorOp
namespace Go.Proofs.YtmpdicjjaoeblaaDoor
open Go.RowKit Go.Shelf
set_option linter.unusedVariables false
set_option maxRecDepth 100000 in
set_option maxHeartbeats 4000000 in
theorem texts_raw (n d x y z : Int) (s p : ByteArray) (w : World) (ht : Pow w)
    (H1 : Hid (∀ w', Below w.heap.size w w' → Calls Tryd.prog 6 #[.string s] w' fun e w'' => e = .returned (trip (x, y, z)) ∧ Below w'.heap.size w' w''))
    (H2 : Hid (∀ w', Below w.heap.size w w' → Calls Tryd.prog 9 #[.string s] w' fun e w'' => e = .returned (trip (x, y, z)) ∧ Below w'.heap.size w' w''))
    (H3 : Hid (∀ w', Below w.heap.size w w' → Calls Tryd.prog 7 #[rv n d] w' fun e w'' => e = .returned (.string p) ∧ Below w'.heap.size w' w''))
    (H4 : Hid (∀ w', Below w.heap.size w w' → Calls Tryd.prog 10 #[rv n d] w' fun e w'' => e = .returned (.string p) ∧ Below w'.heap.size w' w'')) :
    Calls Tryd.prog 4 #[rv n d, .string s] w fun e w' => e = .returned (.bool true) ∧ Below w.heap.size w w' := by
  have B0 := single w (.cells #[.int .i64 n, .int .i64 d] 23)
  go_enter Tryd.func4, Tryd.ntmps4
  go_wp2_with fail
  refine (H1.out _ B0).mono ?_
  rintro e w1 ⟨rfl, hb⟩
  have r0 := kc ⟨w.heap.size, 0, none⟩ (.int .i64 n) hb (by simp [go_sem])
  have r1 := kc ⟨w.heap.size, 1, none⟩ (.int .i64 d) hb (by simp [go_sem])
  have B1 := beyond B0 hb
  clear hb B0
  go_upto_region 2 with (fail)
  have r0n : (w1.alloc (.cells #[.int .i64 x, .int .i64 y] 23)).cell? ⟨w.heap.size, 0, none⟩ = some (.int .i64 n) := kc _ _ (single _ _) r0
  have r1n : (w1.alloc (.cells #[.int .i64 x, .int .i64 y] 23)).cell? ⟨w.heap.size, 1, none⟩ = some (.int .i64 d) := kc _ _ (single _ _) r1
  have ba0 : (w1.alloc (.cells #[.int .i64 x, .int .i64 y] 23)).cell? ⟨w1.heap.size, 0, none⟩ = some (.int .i64 x) := new_cell w1 _ _ 0
  have ba1 : (w1.alloc (.cells #[.int .i64 x, .int .i64 y] 23)).cell? ⟨w1.heap.size, 1, none⟩ = some (.int .i64 y) := new_cell w1 _ _ 1
  have B1n : Below w.heap.size w (w1.alloc (.cells #[.int .i64 x, .int .i64 y] 23)) := beyond B1 (single _ _)
  clear B1 r0 r1
  generalize (w1.alloc (.cells #[.int .i64 x, .int .i64 y] 23)) = Wba at *
  generalize w1.heap.size = ba at *
  go_wp2_with fail
  refine (H2.out _ B1n).mono ?_
  rintro e w2 ⟨rfl, hb⟩
  have r0n_ := kc _ _ hb r0n
  have r1n_ := kc _ _ hb r1n
  have ba0_ := kc _ _ hb ba0
  have ba1_ := kc _ _ hb ba1
  have B2 := beyond B1n hb
  clear hb B1n r0n r1n ba0 ba1
  go_upto_region 3 with (fail)
  have r0n_n : (w2.alloc (.cells #[.int .i64 x, .int .i64 y] 23)).cell? ⟨w.heap.size, 0, none⟩ = some (.int .i64 n) := kc _ _ (single _ _) r0n_
  have r1n_n : (w2.alloc (.cells #[.int .i64 x, .int .i64 y] 23)).cell? ⟨w.heap.size, 1, none⟩ = some (.int .i64 d) := kc _ _ (single _ _) r1n_
  have ba0_n : (w2.alloc (.cells #[.int .i64 x, .int .i64 y] 23)).cell? ⟨ba, 0, none⟩ = some (.int .i64 x) := kc _ _ (single _ _) ba0_
  have ba1_n : (w2.alloc (.cells #[.int .i64 x, .int .i64 y] 23)).cell? ⟨ba, 1, none⟩ = some (.int .i64 y) := kc _ _ (single _ _) ba1_
  have bb0 : (w2.alloc (.cells #[.int .i64 x, .int .i64 y] 23)).cell? ⟨w2.heap.size, 0, none⟩ = some (.int .i64 x) := new_cell w2 _ _ 0
  have bb1 : (w2.alloc (.cells #[.int .i64 x, .int .i64 y] 23)).cell? ⟨w2.heap.size, 1, none⟩ = some (.int .i64 y) := new_cell w2 _ _ 1
  have B2n : Below w.heap.size w (w2.alloc (.cells #[.int .i64 x, .int .i64 y] 23)) := beyond B2 (single _ _)
  clear B2 r0n_ r1n_ ba0_ ba1_
  generalize (w2.alloc (.cells #[.int .i64 x, .int .i64 y] 23)) = Wbb at *
  generalize w2.heap.size = bb at *
  go_region_held3 (fun w' => w'.cell? ⟨w.heap.size, 0, none⟩ = some (.int .i64 n) ∧ w'.cell? ⟨w.heap.size, 1, none⟩ = some (.int .i64 d) ∧ w'.cell? ⟨ba, 0, none⟩ = some (.int .i64 x) ∧ w'.cell? ⟨ba, 1, none⟩ = some (.int .i64 y) ∧ w'.cell? ⟨bb, 0, none⟩ = some (.int .i64 x) ∧ w'.cell? ⟨bb, 1, none⟩ = some (.int .i64 y) ∧ Below w.heap.size w w')
    (first | exact ⟨by assumption, by assumption, by assumption, by assumption, by assumption, by assumption, by first | assumption | exact Below.drew (by assumption)⟩ | go_keep)
    (first
      | (go_at_call 8; refine (live_any _ (pow_later ht (by first | assumption | exact Below.drew (by assumption)))).mono ?_; rintro e' w' ⟨rfl, hb⟩; have v0 := kc ⟨w.heap.size, 0, none⟩ (.int .i64 n) hb (by first | assumption | simp [go_sem, *]); have v1 := kc ⟨w.heap.size, 1, none⟩ (.int .i64 d) hb (by first | assumption | simp [go_sem, *]); have v2 := kc ⟨ba, 0, none⟩ (.int .i64 x) hb (by first | assumption | simp [go_sem, *]); have v3 := kc ⟨ba, 1, none⟩ (.int .i64 y) hb (by first | assumption | simp [go_sem, *]); have v4 := kc ⟨bb, 0, none⟩ (.int .i64 x) hb (by first | assumption | simp [go_sem, *]); have v5 := kc ⟨bb, 1, none⟩ (.int .i64 y) hb (by first | assumption | simp [go_sem, *]); have hX := beyond (w := w) (by first | assumption | exact Below.drew (by assumption)) hb)
      | (go_at_call 7; refine (H3.out _ (by first | assumption | exact Below.drew (by assumption))).mono ?_; rintro e' w' ⟨rfl, hb⟩; have v0 := kc ⟨w.heap.size, 0, none⟩ (.int .i64 n) hb (by first | assumption | simp [go_sem, *]); have v1 := kc ⟨w.heap.size, 1, none⟩ (.int .i64 d) hb (by first | assumption | simp [go_sem, *]); have v2 := kc ⟨ba, 0, none⟩ (.int .i64 x) hb (by first | assumption | simp [go_sem, *]); have v3 := kc ⟨ba, 1, none⟩ (.int .i64 y) hb (by first | assumption | simp [go_sem, *]); have v4 := kc ⟨bb, 0, none⟩ (.int .i64 x) hb (by first | assumption | simp [go_sem, *]); have v5 := kc ⟨bb, 1, none⟩ (.int .i64 y) hb (by first | assumption | simp [go_sem, *]); have hX := beyond (w := w) (by first | assumption | exact Below.drew (by assumption)) hb)
      | (go_at_call 10; refine (H4.out _ (by first | assumption | exact Below.drew (by assumption))).mono ?_; rintro e' w' ⟨rfl, hb⟩; have v0 := kc ⟨w.heap.size, 0, none⟩ (.int .i64 n) hb (by first | assumption | simp [go_sem, *]); have v1 := kc ⟨w.heap.size, 1, none⟩ (.int .i64 d) hb (by first | assumption | simp [go_sem, *]); have v2 := kc ⟨ba, 0, none⟩ (.int .i64 x) hb (by first | assumption | simp [go_sem, *]); have v3 := kc ⟨ba, 1, none⟩ (.int .i64 y) hb (by first | assumption | simp [go_sem, *]); have v4 := kc ⟨bb, 0, none⟩ (.int .i64 x) hb (by first | assumption | simp [go_sem, *]); have v5 := kc ⟨bb, 1, none⟩ (.int .i64 y) hb (by first | assumption | simp [go_sem, *]); have hX := beyond (w := w) (by first | assumption | exact Below.drew (by assumption)) hb))
  all_goals
    go_wp2_with fail
    go_ret
    exact ⟨rfl, by assumption⟩
theorem ratTexts.walk (n : Int) (hn : (Lit.int .i64 n).wf = true) (d : Int) (hd : (Lit.int .i64 d).wf = true) (s : ByteArray) (hs : s.size ≤ maxLen) (w : World) (ht : Pow w) (he : Errs w) (hlim : s.size ≤ 140737488355328) :
    Calls Tryd.prog 4 #[rv n d, .string s] w fun e w' => e = .returned (.bool true) ∧ Below w.heap.size w w' := by
  have h1 := i64_wf hn
  have h2 := i64_wf hd
  have H1 : Hid (∀ w', Below w.heap.size w w' → Calls Tryd.prog 6 #[.string s] w' fun e w'' => e = .returned (trip (parseT s.data.toList)) ∧ Below w'.heap.size w' w'') := hideR fun w' hb => rparse_any s w' hlim (pow_later ht hb) (errs_later he hb)
  have H2 : Hid (∀ w', Below w.heap.size w w' → Calls Tryd.prog 9 #[.string s] w' fun e w'' => e = .returned (trip (parseT s.data.toList)) ∧ Below w'.heap.size w' w'') := hideR fun w' hb => yparse_any s w' hlim (pow_later ht hb)
  generalize parseT s.data.toList = t at *
  obtain ⟨x, y, z⟩ := t
  exact texts_raw n d x y z s _ w ht H1 H2 (hideR fun w' hb => rprintT n d w' h1 h2 (pow_later ht hb)) (hideR fun w' hb => yprintT n d w' h1 h2 (pow_later ht hb))
end Go.Proofs.YtmpdicjjaoeblaaDoor
