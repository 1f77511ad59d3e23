/-
  The walk of the statement RatNews.
-/
import Derived.Test.YtnhopmoboahlgaaDoorXg
import Derived.Test.YtnhopmoboahlgaaDoorVl
namespace Go.Proofs.YtnhopmoboahlgaaDoor
open Go.RowKit Go.Shelf
set_option linter.unusedVariables false
abbrev CallsN (f : FuncId) (n d : Int) (t : Int × Int × Int) : Prop := ∀ w, Calls Tryd.prog f #[.int .i64 n, .int .i64 d] w fun e w' => e = .returned (trip t) ∧ Below w.heap.size w w'
abbrev CallsO (f : FuncId) (n : Int) : Prop := ∀ w, Calls Tryd.prog f #[.int .i64 n] w fun e w' => e = .returned (rv n 1) ∧ Below w.heap.size w w'
set_option maxRecDepth 100000 in
set_option maxHeartbeats 4000000 in
theorem news_ok_true (n d k x y : Int) (w : World) (ht : Pow w) (HN : Hid (CallsN 7 n d (x, y, 0))) (HX : Hid (CallsN 8 n d (x, y, 0))) (HO : Hid (CallsO 10 k)) (HO2 : Hid (CallsO 11 k)) (HR : Hid (AskR n d true)) (HR2 : Hid (AskX n d true)) (HR3 : Hid (AskR x y true)) :
    Calls Tryd.prog 3 #[.int .i64 n, .int .i64 d, .int .i64 k] w fun e w' => e = .returned (.bool true) ∧ Below w.heap.size w w' := by
  go_enter Tryd.func3, Tryd.ntmps3
  go_wp2_with fail
  refine (HN.out _).mono ?_
  rintro e w1 ⟨rfl, hb⟩
  have hB1 : Below w.heap.size w w1 := beyond (Below.refl _ _) hb
  clear hb
  have rB1 : ∀ O, Below w.heap.size w (w1.alloc O) := fun O => beyond hB1 (single _ _)
  go_wp2_with fail
  refine (HX.out _).mono ?_
  rintro e w2 ⟨rfl, hb⟩
  have f2_0 := kc ⟨w1.heap.size, 0, none⟩ (.int .i64 x) hb (new_cell w1 _ _ 0)
  have f2_1 := kc ⟨w1.heap.size, 1, none⟩ (.int .i64 y) hb (new_cell w1 _ _ 1)
  have hB2 : Below w.heap.size w w2 := beyond (rB1 _) hb
  clear hb rB1 hB1
  go_upto_region 4 with (fail)
  have d0 : ((w2.alloc (.cells #[.int .i64 x, .int .i64 y] 23)).alloc (.cells #[.int .i64 n, .int .i64 d] 23)).cell? ⟨w1.heap.size, 0, none⟩ = some (.int .i64 x) := kc _ _ (two _ _ _) f2_0
  have d1 : ((w2.alloc (.cells #[.int .i64 x, .int .i64 y] 23)).alloc (.cells #[.int .i64 n, .int .i64 d] 23)).cell? ⟨w1.heap.size, 1, none⟩ = some (.int .i64 y) := kc _ _ (two _ _ _) f2_1
  have d2 : ((w2.alloc (.cells #[.int .i64 x, .int .i64 y] 23)).alloc (.cells #[.int .i64 n, .int .i64 d] 23)).cell? ⟨w2.heap.size, 0, none⟩ = some (.int .i64 x) := newC3 w2 _ _ _ 0
  have d3 : ((w2.alloc (.cells #[.int .i64 x, .int .i64 y] 23)).alloc (.cells #[.int .i64 n, .int .i64 d] 23)).cell? ⟨w2.heap.size, 1, none⟩ = some (.int .i64 y) := newC3 w2 _ _ _ 1
  have d4 : ((w2.alloc (.cells #[.int .i64 x, .int .i64 y] 23)).alloc (.cells #[.int .i64 n, .int .i64 d] 23)).cell? ⟨w2.heap.size + 1, 0, none⟩ = some (.int .i64 n) := newC2 w2 _ _ _ 0
  have d5 : ((w2.alloc (.cells #[.int .i64 x, .int .i64 y] 23)).alloc (.cells #[.int .i64 n, .int .i64 d] 23)).cell? ⟨w2.heap.size + 1, 1, none⟩ = some (.int .i64 d) := newC2 w2 _ _ _ 1
  have hW : Below w.heap.size w ((w2.alloc (.cells #[.int .i64 x, .int .i64 y] 23)).alloc (.cells #[.int .i64 n, .int .i64 d] 23)) := beyond hB2 (two _ _ _)
  clear f2_0 f2_1 hB2 HN HX
  generalize ((w2.alloc (.cells #[.int .i64 x, .int .i64 y] 23)).alloc (.cells #[.int .i64 n, .int .i64 d] 23)) = W at *
  generalize w2.heap.size + 1 = br at *
  generalize w2.heap.size = bb at *
  generalize w1.heap.size = ba at *
  first
    | go_region_held3 (fun w' => w'.cell? ⟨ba, 0, none⟩ = some (.int .i64 x) ∧ w'.cell? ⟨ba, 1, none⟩ = some (.int .i64 y) ∧ w'.cell? ⟨bb, 0, none⟩ = some (.int .i64 x) ∧ w'.cell? ⟨bb, 1, none⟩ = some (.int .i64 y) ∧ w'.cell? ⟨br, 0, none⟩ = some (.int .i64 n) ∧ w'.cell? ⟨br, 1, none⟩ = some (.int .i64 d) ∧ Below w.heap.size w w')
        (first | exact ⟨by assumption, by assumption, by assumption, by assumption, by assumption, by assumption, by first | assumption | exact Below.drew (by assumption)⟩ | go_keep)
        (first
          | (go_at_call 9; refine (live_any _ (pow_later ht (by first | assumption | exact Below.drew (by assumption)))).mono ?_; rintro e' w' ⟨rfl, hb⟩; have s0 := kc ⟨ba, 0, none⟩ (.int .i64 x) hb (by first | assumption | simp [go_sem, *]); have s1 := kc ⟨ba, 1, none⟩ (.int .i64 y) hb (by first | assumption | simp [go_sem, *]); have s2 := kc ⟨bb, 0, none⟩ (.int .i64 x) hb (by first | assumption | simp [go_sem, *]); have s3 := kc ⟨bb, 1, none⟩ (.int .i64 y) hb (by first | assumption | simp [go_sem, *]); have s4 := kc ⟨br, 0, none⟩ (.int .i64 n) hb (by first | assumption | simp [go_sem, *]); have s5 := kc ⟨br, 1, none⟩ (.int .i64 d) hb (by first | assumption | simp [go_sem, *]); have hX := beyond (w := w) (by first | assumption | exact Below.drew (by assumption)) hb)
          | (go_at_call 10; refine (HO.out _).mono ?_; rintro e' w' ⟨rfl, hb⟩; have s0 := kc ⟨ba, 0, none⟩ (.int .i64 x) hb (by first | assumption | simp [go_sem, *]); have s1 := kc ⟨ba, 1, none⟩ (.int .i64 y) hb (by first | assumption | simp [go_sem, *]); have s2 := kc ⟨bb, 0, none⟩ (.int .i64 x) hb (by first | assumption | simp [go_sem, *]); have s3 := kc ⟨bb, 1, none⟩ (.int .i64 y) hb (by first | assumption | simp [go_sem, *]); have s4 := kc ⟨br, 0, none⟩ (.int .i64 n) hb (by first | assumption | simp [go_sem, *]); have s5 := kc ⟨br, 1, none⟩ (.int .i64 d) hb (by first | assumption | simp [go_sem, *]); have hX := beyond (w := w) (by first | assumption | exact Below.drew (by assumption)) hb)
          | (go_at_call 11; refine (HO2.out _).mono ?_; rintro e' w' ⟨rfl, hb⟩; have s0 := kc ⟨ba, 0, none⟩ (.int .i64 x) hb (by first | assumption | simp [go_sem, *]); have s1 := kc ⟨ba, 1, none⟩ (.int .i64 y) hb (by first | assumption | simp [go_sem, *]); have s2 := kc ⟨bb, 0, none⟩ (.int .i64 x) hb (by first | assumption | simp [go_sem, *]); have s3 := kc ⟨bb, 1, none⟩ (.int .i64 y) hb (by first | assumption | simp [go_sem, *]); have s4 := kc ⟨br, 0, none⟩ (.int .i64 n) hb (by first | assumption | simp [go_sem, *]); have s5 := kc ⟨br, 1, none⟩ (.int .i64 d) hb (by first | assumption | simp [go_sem, *]); have hX := beyond (w := w) (by first | assumption | exact Below.drew (by assumption)) hb)
          | (go_at_call_of 12 n; refine (HR.out _).mono ?_; rintro e' w' ⟨rfl, hb⟩; have s0 := kc ⟨ba, 0, none⟩ (.int .i64 x) hb (by first | assumption | simp [go_sem, *]); have s1 := kc ⟨ba, 1, none⟩ (.int .i64 y) hb (by first | assumption | simp [go_sem, *]); have s2 := kc ⟨bb, 0, none⟩ (.int .i64 x) hb (by first | assumption | simp [go_sem, *]); have s3 := kc ⟨bb, 1, none⟩ (.int .i64 y) hb (by first | assumption | simp [go_sem, *]); have s4 := kc ⟨br, 0, none⟩ (.int .i64 n) hb (by first | assumption | simp [go_sem, *]); have s5 := kc ⟨br, 1, none⟩ (.int .i64 d) hb (by first | assumption | simp [go_sem, *]); have hX := beyond (w := w) (by first | assumption | exact Below.drew (by assumption)) hb)
          | (go_at_call 13; refine (HR2.out _).mono ?_; rintro e' w' ⟨rfl, hb⟩; have s0 := kc ⟨ba, 0, none⟩ (.int .i64 x) hb (by first | assumption | simp [go_sem, *]); have s1 := kc ⟨ba, 1, none⟩ (.int .i64 y) hb (by first | assumption | simp [go_sem, *]); have s2 := kc ⟨bb, 0, none⟩ (.int .i64 x) hb (by first | assumption | simp [go_sem, *]); have s3 := kc ⟨bb, 1, none⟩ (.int .i64 y) hb (by first | assumption | simp [go_sem, *]); have s4 := kc ⟨br, 0, none⟩ (.int .i64 n) hb (by first | assumption | simp [go_sem, *]); have s5 := kc ⟨br, 1, none⟩ (.int .i64 d) hb (by first | assumption | simp [go_sem, *]); have hX := beyond (w := w) (by first | assumption | exact Below.drew (by assumption)) hb)
          | (go_at_call 12; refine (HR3.out _).mono ?_; rintro e' w' ⟨rfl, hb⟩; have s0 := kc ⟨ba, 0, none⟩ (.int .i64 x) hb (by first | assumption | simp [go_sem, *]); have s1 := kc ⟨ba, 1, none⟩ (.int .i64 y) hb (by first | assumption | simp [go_sem, *]); have s2 := kc ⟨bb, 0, none⟩ (.int .i64 x) hb (by first | assumption | simp [go_sem, *]); have s3 := kc ⟨bb, 1, none⟩ (.int .i64 y) hb (by first | assumption | simp [go_sem, *]); have s4 := kc ⟨br, 0, none⟩ (.int .i64 n) hb (by first | assumption | simp [go_sem, *]); have s5 := kc ⟨br, 1, none⟩ (.int .i64 d) hb (by first | assumption | simp [go_sem, *]); have hX := beyond (w := w) (by first | assumption | exact Below.drew (by assumption)) hb))
    | fail
  all_goals
    go_wp2_with fail
    go_ret
    exact ⟨rfl, by assumption⟩
set_option maxRecDepth 100000 in
set_option maxHeartbeats 4000000 in
theorem news_ok_false (n d k x y : Int) (w : World) (ht : Pow w) (HN : Hid (CallsN 7 n d (x, y, 0))) (HX : Hid (CallsN 8 n d (x, y, 0))) (HO : Hid (CallsO 10 k)) (HO2 : Hid (CallsO 11 k)) (HR : Hid (AskR n d false)) (HR2 : Hid (AskX n d false)) (HR3 : Hid (AskR x y true)) :
    Calls Tryd.prog 3 #[.int .i64 n, .int .i64 d, .int .i64 k] w fun e w' => e = .returned (.bool true) ∧ Below w.heap.size w w' := by
  go_enter Tryd.func3, Tryd.ntmps3
  go_wp2_with fail
  refine (HN.out _).mono ?_
  rintro e w1 ⟨rfl, hb⟩
  have hB1 : Below w.heap.size w w1 := beyond (Below.refl _ _) hb
  clear hb
  have rB1 : ∀ O, Below w.heap.size w (w1.alloc O) := fun O => beyond hB1 (single _ _)
  go_wp2_with fail
  refine (HX.out _).mono ?_
  rintro e w2 ⟨rfl, hb⟩
  have f2_0 := kc ⟨w1.heap.size, 0, none⟩ (.int .i64 x) hb (new_cell w1 _ _ 0)
  have f2_1 := kc ⟨w1.heap.size, 1, none⟩ (.int .i64 y) hb (new_cell w1 _ _ 1)
  have hB2 : Below w.heap.size w w2 := beyond (rB1 _) hb
  clear hb rB1 hB1
  go_upto_region 4 with (fail)
  have d0 : ((w2.alloc (.cells #[.int .i64 x, .int .i64 y] 23)).alloc (.cells #[.int .i64 n, .int .i64 d] 23)).cell? ⟨w1.heap.size, 0, none⟩ = some (.int .i64 x) := kc _ _ (two _ _ _) f2_0
  have d1 : ((w2.alloc (.cells #[.int .i64 x, .int .i64 y] 23)).alloc (.cells #[.int .i64 n, .int .i64 d] 23)).cell? ⟨w1.heap.size, 1, none⟩ = some (.int .i64 y) := kc _ _ (two _ _ _) f2_1
  have d2 : ((w2.alloc (.cells #[.int .i64 x, .int .i64 y] 23)).alloc (.cells #[.int .i64 n, .int .i64 d] 23)).cell? ⟨w2.heap.size, 0, none⟩ = some (.int .i64 x) := newC3 w2 _ _ _ 0
  have d3 : ((w2.alloc (.cells #[.int .i64 x, .int .i64 y] 23)).alloc (.cells #[.int .i64 n, .int .i64 d] 23)).cell? ⟨w2.heap.size, 1, none⟩ = some (.int .i64 y) := newC3 w2 _ _ _ 1
  have d4 : ((w2.alloc (.cells #[.int .i64 x, .int .i64 y] 23)).alloc (.cells #[.int .i64 n, .int .i64 d] 23)).cell? ⟨w2.heap.size + 1, 0, none⟩ = some (.int .i64 n) := newC2 w2 _ _ _ 0
  have d5 : ((w2.alloc (.cells #[.int .i64 x, .int .i64 y] 23)).alloc (.cells #[.int .i64 n, .int .i64 d] 23)).cell? ⟨w2.heap.size + 1, 1, none⟩ = some (.int .i64 d) := newC2 w2 _ _ _ 1
  have hW : Below w.heap.size w ((w2.alloc (.cells #[.int .i64 x, .int .i64 y] 23)).alloc (.cells #[.int .i64 n, .int .i64 d] 23)) := beyond hB2 (two _ _ _)
  clear f2_0 f2_1 hB2 HN HX
  generalize ((w2.alloc (.cells #[.int .i64 x, .int .i64 y] 23)).alloc (.cells #[.int .i64 n, .int .i64 d] 23)) = W at *
  generalize w2.heap.size + 1 = br at *
  generalize w2.heap.size = bb at *
  generalize w1.heap.size = ba at *
  first
    | go_region_held3 (fun w' => w'.cell? ⟨ba, 0, none⟩ = some (.int .i64 x) ∧ w'.cell? ⟨ba, 1, none⟩ = some (.int .i64 y) ∧ w'.cell? ⟨bb, 0, none⟩ = some (.int .i64 x) ∧ w'.cell? ⟨bb, 1, none⟩ = some (.int .i64 y) ∧ w'.cell? ⟨br, 0, none⟩ = some (.int .i64 n) ∧ w'.cell? ⟨br, 1, none⟩ = some (.int .i64 d) ∧ Below w.heap.size w w')
        (first | exact ⟨by assumption, by assumption, by assumption, by assumption, by assumption, by assumption, by first | assumption | exact Below.drew (by assumption)⟩ | go_keep)
        (first
          | (go_at_call 9; refine (live_any _ (pow_later ht (by first | assumption | exact Below.drew (by assumption)))).mono ?_; rintro e' w' ⟨rfl, hb⟩; have s0 := kc ⟨ba, 0, none⟩ (.int .i64 x) hb (by first | assumption | simp [go_sem, *]); have s1 := kc ⟨ba, 1, none⟩ (.int .i64 y) hb (by first | assumption | simp [go_sem, *]); have s2 := kc ⟨bb, 0, none⟩ (.int .i64 x) hb (by first | assumption | simp [go_sem, *]); have s3 := kc ⟨bb, 1, none⟩ (.int .i64 y) hb (by first | assumption | simp [go_sem, *]); have s4 := kc ⟨br, 0, none⟩ (.int .i64 n) hb (by first | assumption | simp [go_sem, *]); have s5 := kc ⟨br, 1, none⟩ (.int .i64 d) hb (by first | assumption | simp [go_sem, *]); have hX := beyond (w := w) (by first | assumption | exact Below.drew (by assumption)) hb)
          | (go_at_call 10; refine (HO.out _).mono ?_; rintro e' w' ⟨rfl, hb⟩; have s0 := kc ⟨ba, 0, none⟩ (.int .i64 x) hb (by first | assumption | simp [go_sem, *]); have s1 := kc ⟨ba, 1, none⟩ (.int .i64 y) hb (by first | assumption | simp [go_sem, *]); have s2 := kc ⟨bb, 0, none⟩ (.int .i64 x) hb (by first | assumption | simp [go_sem, *]); have s3 := kc ⟨bb, 1, none⟩ (.int .i64 y) hb (by first | assumption | simp [go_sem, *]); have s4 := kc ⟨br, 0, none⟩ (.int .i64 n) hb (by first | assumption | simp [go_sem, *]); have s5 := kc ⟨br, 1, none⟩ (.int .i64 d) hb (by first | assumption | simp [go_sem, *]); have hX := beyond (w := w) (by first | assumption | exact Below.drew (by assumption)) hb)
          | (go_at_call 11; refine (HO2.out _).mono ?_; rintro e' w' ⟨rfl, hb⟩; have s0 := kc ⟨ba, 0, none⟩ (.int .i64 x) hb (by first | assumption | simp [go_sem, *]); have s1 := kc ⟨ba, 1, none⟩ (.int .i64 y) hb (by first | assumption | simp [go_sem, *]); have s2 := kc ⟨bb, 0, none⟩ (.int .i64 x) hb (by first | assumption | simp [go_sem, *]); have s3 := kc ⟨bb, 1, none⟩ (.int .i64 y) hb (by first | assumption | simp [go_sem, *]); have s4 := kc ⟨br, 0, none⟩ (.int .i64 n) hb (by first | assumption | simp [go_sem, *]); have s5 := kc ⟨br, 1, none⟩ (.int .i64 d) hb (by first | assumption | simp [go_sem, *]); have hX := beyond (w := w) (by first | assumption | exact Below.drew (by assumption)) hb)
          | (go_at_call_of 12 n; refine (HR.out _).mono ?_; rintro e' w' ⟨rfl, hb⟩; have s0 := kc ⟨ba, 0, none⟩ (.int .i64 x) hb (by first | assumption | simp [go_sem, *]); have s1 := kc ⟨ba, 1, none⟩ (.int .i64 y) hb (by first | assumption | simp [go_sem, *]); have s2 := kc ⟨bb, 0, none⟩ (.int .i64 x) hb (by first | assumption | simp [go_sem, *]); have s3 := kc ⟨bb, 1, none⟩ (.int .i64 y) hb (by first | assumption | simp [go_sem, *]); have s4 := kc ⟨br, 0, none⟩ (.int .i64 n) hb (by first | assumption | simp [go_sem, *]); have s5 := kc ⟨br, 1, none⟩ (.int .i64 d) hb (by first | assumption | simp [go_sem, *]); have hX := beyond (w := w) (by first | assumption | exact Below.drew (by assumption)) hb)
          | (go_at_call 13; refine (HR2.out _).mono ?_; rintro e' w' ⟨rfl, hb⟩; have s0 := kc ⟨ba, 0, none⟩ (.int .i64 x) hb (by first | assumption | simp [go_sem, *]); have s1 := kc ⟨ba, 1, none⟩ (.int .i64 y) hb (by first | assumption | simp [go_sem, *]); have s2 := kc ⟨bb, 0, none⟩ (.int .i64 x) hb (by first | assumption | simp [go_sem, *]); have s3 := kc ⟨bb, 1, none⟩ (.int .i64 y) hb (by first | assumption | simp [go_sem, *]); have s4 := kc ⟨br, 0, none⟩ (.int .i64 n) hb (by first | assumption | simp [go_sem, *]); have s5 := kc ⟨br, 1, none⟩ (.int .i64 d) hb (by first | assumption | simp [go_sem, *]); have hX := beyond (w := w) (by first | assumption | exact Below.drew (by assumption)) hb)
          | (go_at_call 12; refine (HR3.out _).mono ?_; rintro e' w' ⟨rfl, hb⟩; have s0 := kc ⟨ba, 0, none⟩ (.int .i64 x) hb (by first | assumption | simp [go_sem, *]); have s1 := kc ⟨ba, 1, none⟩ (.int .i64 y) hb (by first | assumption | simp [go_sem, *]); have s2 := kc ⟨bb, 0, none⟩ (.int .i64 x) hb (by first | assumption | simp [go_sem, *]); have s3 := kc ⟨bb, 1, none⟩ (.int .i64 y) hb (by first | assumption | simp [go_sem, *]); have s4 := kc ⟨br, 0, none⟩ (.int .i64 n) hb (by first | assumption | simp [go_sem, *]); have s5 := kc ⟨br, 1, none⟩ (.int .i64 d) hb (by first | assumption | simp [go_sem, *]); have hX := beyond (w := w) (by first | assumption | exact Below.drew (by assumption)) hb))
    | fail
  all_goals
    go_wp2_with fail
    go_ret
    exact ⟨rfl, by assumption⟩
set_option maxRecDepth 100000 in
set_option maxHeartbeats 4000000 in
theorem news_no20 (n d k x y : Int) (w : World) (ht : Pow w) (rb : Bool) (HN : Hid (CallsN 7 n d (x, y, 20))) (HX : Hid (CallsN 8 n d (x, y, 20))) (HO : Hid (CallsO 10 k)) (HO2 : Hid (CallsO 11 k)) (HR : Hid (AskR n d rb)) (HR2 : Hid (AskX n d rb)) :
    Calls Tryd.prog 3 #[.int .i64 n, .int .i64 d, .int .i64 k] w fun e w' => e = .returned (.bool true) ∧ Below w.heap.size w w' := by
  go_enter Tryd.func3, Tryd.ntmps3
  go_wp2_with fail
  refine (HN.out _).mono ?_
  rintro e w1 ⟨rfl, hb⟩
  have hB1 : Below w.heap.size w w1 := beyond (Below.refl _ _) hb
  clear hb
  have rB1 : ∀ O, Below w.heap.size w (w1.alloc O) := fun O => beyond hB1 (single _ _)
  go_wp2_with fail
  refine (HX.out _).mono ?_
  rintro e w2 ⟨rfl, hb⟩
  have f2_0 := kc ⟨w1.heap.size, 0, none⟩ (.int .i64 x) hb (new_cell w1 _ _ 0)
  have f2_1 := kc ⟨w1.heap.size, 1, none⟩ (.int .i64 y) hb (new_cell w1 _ _ 1)
  have hB2 : Below w.heap.size w w2 := beyond (rB1 _) hb
  clear hb rB1 hB1
  go_upto_region 4 with (fail)
  have d0 : ((w2.alloc (.cells #[.int .i64 x, .int .i64 y] 23)).alloc (.cells #[.int .i64 n, .int .i64 d] 23)).cell? ⟨w1.heap.size, 0, none⟩ = some (.int .i64 x) := kc _ _ (two _ _ _) f2_0
  have d1 : ((w2.alloc (.cells #[.int .i64 x, .int .i64 y] 23)).alloc (.cells #[.int .i64 n, .int .i64 d] 23)).cell? ⟨w1.heap.size, 1, none⟩ = some (.int .i64 y) := kc _ _ (two _ _ _) f2_1
  have d2 : ((w2.alloc (.cells #[.int .i64 x, .int .i64 y] 23)).alloc (.cells #[.int .i64 n, .int .i64 d] 23)).cell? ⟨w2.heap.size, 0, none⟩ = some (.int .i64 x) := newC3 w2 _ _ _ 0
  have d3 : ((w2.alloc (.cells #[.int .i64 x, .int .i64 y] 23)).alloc (.cells #[.int .i64 n, .int .i64 d] 23)).cell? ⟨w2.heap.size, 1, none⟩ = some (.int .i64 y) := newC3 w2 _ _ _ 1
  have d4 : ((w2.alloc (.cells #[.int .i64 x, .int .i64 y] 23)).alloc (.cells #[.int .i64 n, .int .i64 d] 23)).cell? ⟨w2.heap.size + 1, 0, none⟩ = some (.int .i64 n) := newC2 w2 _ _ _ 0
  have d5 : ((w2.alloc (.cells #[.int .i64 x, .int .i64 y] 23)).alloc (.cells #[.int .i64 n, .int .i64 d] 23)).cell? ⟨w2.heap.size + 1, 1, none⟩ = some (.int .i64 d) := newC2 w2 _ _ _ 1
  have hW : Below w.heap.size w ((w2.alloc (.cells #[.int .i64 x, .int .i64 y] 23)).alloc (.cells #[.int .i64 n, .int .i64 d] 23)) := beyond hB2 (two _ _ _)
  clear f2_0 f2_1 hB2 HN HX
  generalize ((w2.alloc (.cells #[.int .i64 x, .int .i64 y] 23)).alloc (.cells #[.int .i64 n, .int .i64 d] 23)) = W at *
  generalize w2.heap.size + 1 = br at *
  generalize w2.heap.size = bb at *
  generalize w1.heap.size = ba at *
  refine wp_region_noPanic ?_
  refine wp_region_held_drew (S := fun w' => w'.cell? ⟨ba, 0, none⟩ = some (.int .i64 x) ∧ w'.cell? ⟨ba, 1, none⟩ = some (.int .i64 y) ∧ w'.cell? ⟨bb, 0, none⟩ = some (.int .i64 x) ∧ w'.cell? ⟨bb, 1, none⟩ = some (.int .i64 y) ∧ w'.cell? ⟨br, 0, none⟩ = some (.int .i64 n) ∧ w'.cell? ⟨br, 1, none⟩ = some (.int .i64 d) ∧ Below w.heap.size w w') (by kernel_rfl) ?_ (fun hHeld => ?_)
  · (try dsimp only); first | exact ⟨by assumption, by assumption, by assumption, by assumption, by assumption, by assumption, by first | assumption | exact Below.drew (by assumption)⟩ | go_keep
  refine wpAnyH_ready (rs := [0]) (by kernel_rfl) (by simp) ?_
  refine AllReadyH.cons (o := ⟨_, _, _, _, _, _⟩) rfl (fun K hK => ?_) AllReadyH.nil
  go_simp
  go_at_call 9
  refine (live_any _ (pow_later ht (by first | assumption | exact Below.drew (by assumption)))).mono ?_
  rintro e' w' ⟨rfl, hb⟩
  have s0 := kc ⟨ba, 0, none⟩ (.int .i64 x) hb (by first | assumption | simp [go_sem, *])
  have s1 := kc ⟨ba, 1, none⟩ (.int .i64 y) hb (by first | assumption | simp [go_sem, *])
  have s2 := kc ⟨bb, 0, none⟩ (.int .i64 x) hb (by first | assumption | simp [go_sem, *])
  have s3 := kc ⟨bb, 1, none⟩ (.int .i64 y) hb (by first | assumption | simp [go_sem, *])
  have s4 := kc ⟨br, 0, none⟩ (.int .i64 n) hb (by first | assumption | simp [go_sem, *])
  have s5 := kc ⟨br, 1, none⟩ (.int .i64 d) hb (by first | assumption | simp [go_sem, *])
  have hX := beyond (w := w) (by first | assumption | exact Below.drew (by assumption)) hb
  clear hb
  try go_wp2_with fail
  refine hK.out _ _ ?_ (fun hHeld => ?_)
  · (try dsimp only); first | exact ⟨by assumption, by assumption, by assumption, by assumption, by assumption, by assumption, by first | assumption | exact Below.drew (by assumption)⟩ | go_keep
  clear hK K
  try simp only [Act.put, List.setIfInBounds_toArray, List.set_cons_zero, List.set_cons_succ]
  refine wpAnyH_take (i := 1) (oi := ⟨_, _, _, _, _, _⟩) (v := ?_) rfl (by kernel_rfl) (by kernel_rfl) (by kernel_rfl) (fun _ _ _ h => h) (Or.inl ⟨by rfl, ?_⟩) (by assumption) ?_
  rotate_left
  · intro w hSw; (try dsimp only at hSw); first | (go_simp; done) | (go_simp; with_reducible rfl)
  try simp only [Act.put, List.setIfInBounds_toArray, List.set_cons_zero, List.set_cons_succ]
  refine wpAnyH_take (i := 2) (oi := ⟨_, _, _, _, _, _⟩) (v := ?_) rfl (by kernel_rfl) (by kernel_rfl) (by kernel_rfl) (fun _ _ _ h => h) (Or.inl ⟨by rfl, ?_⟩) (by assumption) ?_
  rotate_left
  · intro w hSw; (try dsimp only at hSw); first | (go_simp; done) | (go_simp; with_reducible rfl)
  try simp only [Act.put, List.setIfInBounds_toArray, List.set_cons_zero, List.set_cons_succ]
  refine wpAnyH_take (i := 3) (oi := ⟨_, _, _, _, _, _⟩) (v := ?_) rfl (by kernel_rfl) (by kernel_rfl) (by kernel_rfl) (fun _ _ _ h => h) (Or.inl ⟨by rfl, ?_⟩) (by assumption) ?_
  rotate_left
  · intro w hSw; (try dsimp only at hSw); first | (go_simp; done) | (go_simp; with_reducible rfl)
  try simp only [Act.put, List.setIfInBounds_toArray, List.set_cons_zero, List.set_cons_succ]
  refine wpAnyH_take (i := 4) (oi := ⟨_, _, _, _, _, _⟩) (v := ?_) rfl (by kernel_rfl) (by kernel_rfl) (by kernel_rfl) (fun _ _ _ h => h) (Or.inl ⟨by rfl, ?_⟩) (by assumption) ?_
  rotate_left
  · intro w hSw; (try dsimp only at hSw); first | (go_simp; done) | (go_simp; with_reducible rfl)
  try simp only [Act.put, List.setIfInBounds_toArray, List.set_cons_zero, List.set_cons_succ]
  refine wpAnyH_take (i := 5) (oi := ⟨_, _, _, _, _, _⟩) (v := ?_) rfl (by kernel_rfl) (by kernel_rfl) (by kernel_rfl) (fun _ _ _ h => h) (Or.inl ⟨by rfl, ?_⟩) (by assumption) ?_
  rotate_left
  · intro w hSw; (try dsimp only at hSw); first | (go_simp; done) | (go_simp; with_reducible rfl)
  try simp only [Act.put, List.setIfInBounds_toArray, List.set_cons_zero, List.set_cons_succ]
  refine wpAnyH_take (i := 6) (oi := ⟨_, _, _, _, _, _⟩) (v := ?_) rfl (by kernel_rfl) (by kernel_rfl) (by kernel_rfl) (fun _ _ _ h => h) (Or.inl ⟨by rfl, ?_⟩) (by assumption) ?_
  rotate_left
  · intro w hSw; (try dsimp only at hSw); first | (go_simp; done) | (go_simp; with_reducible rfl)
  try simp only [Act.put, List.setIfInBounds_toArray, List.set_cons_zero, List.set_cons_succ]
  refine wpAnyH_take (i := 7) (oi := ⟨_, _, _, _, _, _⟩) (v := ?_) rfl (by kernel_rfl) (by kernel_rfl) (by kernel_rfl) (fun _ _ _ h => h) (Or.inl ⟨by rfl, ?_⟩) (by assumption) ?_
  rotate_left
  · intro w hSw; (try dsimp only at hSw); first | (go_simp; done) | (go_simp; with_reducible rfl)
  try simp only [Act.put, List.setIfInBounds_toArray, List.set_cons_zero, List.set_cons_succ]
  refine wpAnyH_take (i := 8) (oi := ⟨_, _, _, _, _, _⟩) (v := ?_) rfl (by kernel_rfl) (by kernel_rfl) (by kernel_rfl) (fun _ _ _ h => h) (Or.inl ⟨by rfl, ?_⟩) (by assumption) ?_
  rotate_left
  · intro w hSw; (try dsimp only at hSw); first | (go_simp; done) | (go_simp; with_reducible rfl)
  try simp only [Act.put, List.setIfInBounds_toArray, List.set_cons_zero, List.set_cons_succ]
  refine wpAnyH_take (i := 9) (oi := ⟨_, _, _, _, _, _⟩) (v := ?_) rfl (by kernel_rfl) (by kernel_rfl) (by kernel_rfl) (fun _ _ _ h => h) (Or.inl ⟨by rfl, ?_⟩) (by assumption) ?_
  rotate_left
  · intro w hSw; (try dsimp only at hSw); first | (go_simp; done) | (go_simp; with_reducible rfl)
  try simp only [Act.put, List.setIfInBounds_toArray, List.set_cons_zero, List.set_cons_succ]
  refine wpAnyH_take (i := 10) (oi := ⟨_, _, _, _, _, _⟩) (v := ?_) rfl (by kernel_rfl) (by kernel_rfl) (by kernel_rfl) (fun _ _ _ h => h) (Or.inl ⟨by rfl, ?_⟩) (by assumption) ?_
  rotate_left
  · intro w hSw; (try dsimp only at hSw); first | (go_simp; done) | (go_simp; with_reducible rfl)
  try simp only [Act.put, List.setIfInBounds_toArray, List.set_cons_zero, List.set_cons_succ]
  refine wpAnyH_take (i := 11) (oi := ⟨_, _, _, _, _, _⟩) (v := ?_) rfl (by kernel_rfl) (by kernel_rfl) (by kernel_rfl) (fun _ _ _ h => h) (Or.inl ⟨by rfl, ?_⟩) (by assumption) ?_
  rotate_left
  · intro w hSw; (try dsimp only at hSw); first | (go_simp; done) | (go_simp; with_reducible rfl)
  try simp only [Act.put, List.setIfInBounds_toArray, List.set_cons_zero, List.set_cons_succ]
  refine wpAnyH_take (i := 12) (oi := ⟨_, _, _, _, _, _⟩) (v := ?_) rfl (by kernel_rfl) (by kernel_rfl) (by kernel_rfl) (fun _ _ _ h => h) (Or.inl ⟨by rfl, ?_⟩) (by assumption) ?_
  rotate_left
  · intro w hSw; (try dsimp only at hSw); first | (go_simp; done) | (go_simp; with_reducible rfl)
  try simp only [Act.put, List.setIfInBounds_toArray, List.set_cons_zero, List.set_cons_succ]
  refine wpAnyH_take (i := 14) (oi := ⟨_, _, _, _, _, _⟩) (v := ?_) rfl (by kernel_rfl) (by kernel_rfl) (by kernel_rfl) (fun _ _ _ h => h) (Or.inl ⟨by rfl, ?_⟩) (by assumption) ?_
  rotate_left
  · intro w hSw; (try dsimp only at hSw); first | (go_simp; done) | (go_simp; with_reducible rfl)
  try simp only [Act.put, List.setIfInBounds_toArray, List.set_cons_zero, List.set_cons_succ]
  refine wpAnyH_ready (rs := [13]) (by kernel_rfl) (by simp) ?_
  refine AllReadyH.cons (o := ⟨_, _, _, _, _, _⟩) rfl (fun K hK => ?_) AllReadyH.nil
  go_simp
  go_at_call 10
  refine (HO.out _).mono ?_
  rintro e' w' ⟨rfl, hb⟩
  have s0 := kc ⟨ba, 0, none⟩ (.int .i64 x) hb (by first | assumption | simp [go_sem, *])
  have s1 := kc ⟨ba, 1, none⟩ (.int .i64 y) hb (by first | assumption | simp [go_sem, *])
  have s2 := kc ⟨bb, 0, none⟩ (.int .i64 x) hb (by first | assumption | simp [go_sem, *])
  have s3 := kc ⟨bb, 1, none⟩ (.int .i64 y) hb (by first | assumption | simp [go_sem, *])
  have s4 := kc ⟨br, 0, none⟩ (.int .i64 n) hb (by first | assumption | simp [go_sem, *])
  have s5 := kc ⟨br, 1, none⟩ (.int .i64 d) hb (by first | assumption | simp [go_sem, *])
  have hX := beyond (w := w) (by first | assumption | exact Below.drew (by assumption)) hb
  clear hb
  try go_wp2_with fail
  refine hK.out _ _ ?_ (fun hHeld => ?_)
  · (try dsimp only); first | exact ⟨by assumption, by assumption, by assumption, by assumption, by assumption, by assumption, by first | assumption | exact Below.drew (by assumption)⟩ | go_keep
  clear hK K
  try simp only [Act.put, List.setIfInBounds_toArray, List.set_cons_zero, List.set_cons_succ]
  refine wpAnyH_ready (rs := [15]) (by kernel_rfl) (by simp) ?_
  refine AllReadyH.cons (o := ⟨_, _, _, _, _, _⟩) rfl (fun K hK => ?_) AllReadyH.nil
  go_simp
  go_at_call 11
  refine (HO2.out _).mono ?_
  rintro e' w' ⟨rfl, hb⟩
  have s0 := kc ⟨ba, 0, none⟩ (.int .i64 x) hb (by first | assumption | simp [go_sem, *])
  have s1 := kc ⟨ba, 1, none⟩ (.int .i64 y) hb (by first | assumption | simp [go_sem, *])
  have s2 := kc ⟨bb, 0, none⟩ (.int .i64 x) hb (by first | assumption | simp [go_sem, *])
  have s3 := kc ⟨bb, 1, none⟩ (.int .i64 y) hb (by first | assumption | simp [go_sem, *])
  have s4 := kc ⟨br, 0, none⟩ (.int .i64 n) hb (by first | assumption | simp [go_sem, *])
  have s5 := kc ⟨br, 1, none⟩ (.int .i64 d) hb (by first | assumption | simp [go_sem, *])
  have hX := beyond (w := w) (by first | assumption | exact Below.drew (by assumption)) hb
  clear hb
  try go_wp2_with fail
  refine hK.out _ _ ?_ (fun hHeld => ?_)
  · (try dsimp only); first | exact ⟨by assumption, by assumption, by assumption, by assumption, by assumption, by assumption, by first | assumption | exact Below.drew (by assumption)⟩ | go_keep
  clear hK K
  try simp only [Act.put, List.setIfInBounds_toArray, List.set_cons_zero, List.set_cons_succ]
  refine wpAnyH_take (i := 16) (oi := ⟨_, _, _, _, _, _⟩) (v := ?_) rfl (by kernel_rfl) (by kernel_rfl) (by kernel_rfl) (fun _ _ _ h => h) (Or.inl ⟨by rfl, ?_⟩) (by assumption) ?_
  rotate_left
  · intro w hSw; (try dsimp only at hSw); first | (go_simp; done) | (go_simp; with_reducible rfl)
  try simp only [Act.put, List.setIfInBounds_toArray, List.set_cons_zero, List.set_cons_succ]
  refine wpAnyH_take (i := 17) (oi := ⟨_, _, _, _, _, _⟩) (v := ?_) rfl (by kernel_rfl) (by kernel_rfl) (by kernel_rfl) (fun _ _ _ h => h) (Or.inl ⟨by rfl, ?_⟩) (by assumption) ?_
  rotate_left
  · intro w hSw; (try dsimp only at hSw); first | (go_simp; done) | (go_simp; with_reducible rfl)
  try simp only [Act.put, List.setIfInBounds_toArray, List.set_cons_zero, List.set_cons_succ]
  refine wpAnyH_take (i := 18) (oi := ⟨_, _, _, _, _, _⟩) (v := ?_) rfl (by kernel_rfl) (by kernel_rfl) (by kernel_rfl) (fun _ _ _ h => h) (Or.inl ⟨by rfl, ?_⟩) (by assumption) ?_
  rotate_left
  · intro w hSw; (try dsimp only at hSw); first | (go_simp; done) | (go_simp; with_reducible rfl)
  try simp only [Act.put, List.setIfInBounds_toArray, List.set_cons_zero, List.set_cons_succ]
  refine wpAnyH_take (i := 19) (oi := ⟨_, _, _, _, _, _⟩) (v := ?_) rfl (by kernel_rfl) (by kernel_rfl) (by kernel_rfl) (fun _ _ _ h => h) (Or.inl ⟨by rfl, ?_⟩) (by assumption) ?_
  rotate_left
  · intro w hSw; (try dsimp only at hSw); first | (go_simp; done) | (go_simp; with_reducible rfl)
  try simp only [Act.put, List.setIfInBounds_toArray, List.set_cons_zero, List.set_cons_succ]
  refine wpAnyH_take (i := 21) (oi := ⟨_, _, _, _, _, _⟩) (v := ?_) rfl (by kernel_rfl) (by kernel_rfl) (by kernel_rfl) (fun _ _ _ h => h) (Or.inl ⟨by rfl, ?_⟩) (by assumption) ?_
  rotate_left
  · intro w hSw; (try dsimp only at hSw); first | (go_simp; done) | (go_simp; with_reducible rfl)
  try simp only [Act.put, List.setIfInBounds_toArray, List.set_cons_zero, List.set_cons_succ]
  refine wpAnyH_ready (rs := [20]) (by kernel_rfl) (by simp) ?_
  refine AllReadyH.cons (o := ⟨_, _, _, _, _, _⟩) rfl (fun K hK => ?_) AllReadyH.nil
  go_simp
  go_at_call_of 12 n
  refine (HR.out _).mono ?_
  rintro e' w' ⟨rfl, hb⟩
  have s0 := kc ⟨ba, 0, none⟩ (.int .i64 x) hb (by first | assumption | simp [go_sem, *])
  have s1 := kc ⟨ba, 1, none⟩ (.int .i64 y) hb (by first | assumption | simp [go_sem, *])
  have s2 := kc ⟨bb, 0, none⟩ (.int .i64 x) hb (by first | assumption | simp [go_sem, *])
  have s3 := kc ⟨bb, 1, none⟩ (.int .i64 y) hb (by first | assumption | simp [go_sem, *])
  have s4 := kc ⟨br, 0, none⟩ (.int .i64 n) hb (by first | assumption | simp [go_sem, *])
  have s5 := kc ⟨br, 1, none⟩ (.int .i64 d) hb (by first | assumption | simp [go_sem, *])
  have hX := beyond (w := w) (by first | assumption | exact Below.drew (by assumption)) hb
  clear hb
  try go_wp2_with fail
  refine hK.out _ _ ?_ (fun hHeld => ?_)
  · (try dsimp only); first | exact ⟨by assumption, by assumption, by assumption, by assumption, by assumption, by assumption, by first | assumption | exact Below.drew (by assumption)⟩ | go_keep
  clear hK K
  try simp only [Act.put, List.setIfInBounds_toArray, List.set_cons_zero, List.set_cons_succ]
  refine wpAnyH_ready (rs := [22]) (by kernel_rfl) (by simp) ?_
  refine AllReadyH.cons (o := ⟨_, _, _, _, _, _⟩) rfl (fun K hK => ?_) AllReadyH.nil
  go_simp
  go_at_call 13
  refine (HR2.out _).mono ?_
  rintro e' w' ⟨rfl, hb⟩
  have s0 := kc ⟨ba, 0, none⟩ (.int .i64 x) hb (by first | assumption | simp [go_sem, *])
  have s1 := kc ⟨ba, 1, none⟩ (.int .i64 y) hb (by first | assumption | simp [go_sem, *])
  have s2 := kc ⟨bb, 0, none⟩ (.int .i64 x) hb (by first | assumption | simp [go_sem, *])
  have s3 := kc ⟨bb, 1, none⟩ (.int .i64 y) hb (by first | assumption | simp [go_sem, *])
  have s4 := kc ⟨br, 0, none⟩ (.int .i64 n) hb (by first | assumption | simp [go_sem, *])
  have s5 := kc ⟨br, 1, none⟩ (.int .i64 d) hb (by first | assumption | simp [go_sem, *])
  have hX := beyond (w := w) (by first | assumption | exact Below.drew (by assumption)) hb
  clear hb
  try go_wp2_with fail
  refine hK.out _ _ ?_ (fun hHeld => ?_)
  · (try dsimp only); first | exact ⟨by assumption, by assumption, by assumption, by assumption, by assumption, by assumption, by first | assumption | exact Below.drew (by assumption)⟩ | go_keep
  clear hK K
  try simp only [Act.put, List.setIfInBounds_toArray, List.set_cons_zero, List.set_cons_succ]
  refine wpAnyH_take (i := 23) (oi := ⟨_, _, _, _, _, _⟩) (v := ?_) rfl (by kernel_rfl) (by kernel_rfl) (by kernel_rfl) (fun _ _ _ h => h) (Or.inl ⟨by rfl, ?_⟩) (by assumption) ?_
  rotate_left
  · intro w hSw; (try dsimp only at hSw); first | (go_simp; done) | (go_simp; with_reducible rfl)
  try simp only [Act.put, List.setIfInBounds_toArray, List.set_cons_zero, List.set_cons_succ]
  refine wpAnyH_take (i := 24) (oi := ⟨_, _, _, _, _, _⟩) (v := ?_) rfl (by kernel_rfl) (by kernel_rfl) (by kernel_rfl) (fun _ _ _ h => h) (Or.inl ⟨by rfl, ?_⟩) (by assumption) ?_
  rotate_left
  · intro w hSw; (try dsimp only at hSw); first | (go_simp; done) | (go_simp; with_reducible rfl)
  try simp only [Act.put, List.setIfInBounds_toArray, List.set_cons_zero, List.set_cons_succ]
  refine wpAnyH_take (i := 25) (oi := ⟨_, _, _, _, _, _⟩) (v := ?_) rfl (by kernel_rfl) (by kernel_rfl) (by kernel_rfl) (fun _ _ _ h => h) (Or.inl ⟨by rfl, ?_⟩) (by assumption) ?_
  rotate_left
  · intro w hSw; (try dsimp only at hSw); first | (go_simp; done) | (go_simp; with_reducible rfl)
  try simp only [Act.put, List.setIfInBounds_toArray, List.set_cons_zero, List.set_cons_succ]
  refine wpAnyH_take (i := 26) (oi := ⟨_, _, _, _, _, _⟩) (v := ?_) rfl (by kernel_rfl) (by kernel_rfl) (by kernel_rfl) (fun _ _ _ h => h) (Or.inl ⟨by rfl, ?_⟩) (by assumption) ?_
  rotate_left
  · intro w hSw; (try dsimp only at hSw); first | (go_simp; done) | (go_simp; with_reducible rfl)
  try simp only [Act.put, List.setIfInBounds_toArray, List.set_cons_zero, List.set_cons_succ]
  refine wpAnyH_take (i := 27) (oi := ⟨_, _, _, _, _, _⟩) (v := ?_) rfl (by kernel_rfl) (by kernel_rfl) (by kernel_rfl) (fun _ _ _ h => h) (Or.inl ⟨by rfl, ?_⟩) (by assumption) ?_
  rotate_left
  · intro w hSw; (try dsimp only at hSw); first | (go_simp; done) | (go_simp; with_reducible rfl)
  try simp only [Act.put, List.setIfInBounds_toArray, List.set_cons_zero, List.set_cons_succ]
  refine wpAnyH_take (i := 28) (oi := ⟨_, _, _, _, _, _⟩) (v := ?_) rfl (by kernel_rfl) (by kernel_rfl) (by kernel_rfl) (fun _ _ _ h => h) (Or.inl ⟨by rfl, ?_⟩) (by assumption) ?_
  rotate_left
  · intro w hSw; (try dsimp only at hSw); first | (go_simp; done) | (go_simp; with_reducible rfl)
  try simp only [Act.put, List.setIfInBounds_toArray, List.set_cons_zero, List.set_cons_succ]
  refine wpAnyH_take (i := 29) (oi := ⟨_, _, _, _, _, _⟩) (v := undef) rfl (by kernel_rfl) (by kernel_rfl) (by kernel_rfl) (fun _ _ _ h => h) (Or.inr ⟨by rfl, rfl⟩) (by assumption) ?_
  try simp only [Act.put, List.setIfInBounds_toArray, List.set_cons_zero, List.set_cons_succ]
  refine wpAnyH_ready (rs := [30]) (by kernel_rfl) (by simp) ?_
  refine AllReadyH.cons (o := ⟨_, _, _, _, _, _⟩) rfl (fun K hK => ?_) AllReadyH.nil
  go_simp
  refine hK.out _ _ ?_ (fun hHeld => ?_)
  · (try dsimp only); first | exact ⟨by assumption, by assumption, by assumption, by assumption, by assumption, by assumption, by first | assumption | exact Below.drew (by assumption)⟩ | go_keep
  clear hK K
  try simp only [Act.put, List.setIfInBounds_toArray, List.set_cons_zero, List.set_cons_succ]
  refine wpAnyH_take (i := 31) (oi := ⟨_, _, _, _, _, _⟩) (v := ?_) rfl (by kernel_rfl) (by kernel_rfl) (by kernel_rfl) (fun _ _ _ h => h) (Or.inl ⟨by rfl, ?_⟩) (by assumption) ?_
  rotate_left
  · intro w hSw; (try dsimp only at hSw); first | (go_simp; done) | (go_simp; with_reducible rfl)
  try simp only [Act.put, List.setIfInBounds_toArray, List.set_cons_zero, List.set_cons_succ]
  refine wpAnyH_take (i := 32) (oi := ⟨_, _, _, _, _, _⟩) (v := ?_) rfl (by kernel_rfl) (by kernel_rfl) (by kernel_rfl) (fun _ _ _ h => h) (Or.inl ⟨by rfl, ?_⟩) (by assumption) ?_
  rotate_left
  · intro w hSw; (try dsimp only at hSw); first | (go_simp; done) | (go_simp; with_reducible rfl)
  try simp only [Act.put, List.setIfInBounds_toArray, List.set_cons_zero, List.set_cons_succ]
  refine wpAnyH_take (i := 33) (oi := ⟨_, _, _, _, _, _⟩) (v := ?_) rfl (by kernel_rfl) (by kernel_rfl) (by kernel_rfl) (fun _ _ _ h => h) (Or.inl ⟨by rfl, ?_⟩) (by assumption) ?_
  rotate_left
  · intro w hSw; (try dsimp only at hSw); first | (go_simp; done) | (go_simp; with_reducible rfl)
  try simp only [Act.put, List.setIfInBounds_toArray, List.set_cons_zero, List.set_cons_succ]
  refine wpAnyH_done (by kernel_rfl) ?_ _
  refine NoPanic.normal ?_
  go_wp2_with fail
  go_ret
  exact ⟨rfl, by assumption⟩
set_option maxRecDepth 100000 in
set_option maxHeartbeats 4000000 in
theorem news_no21 (n d k x y : Int) (w : World) (ht : Pow w) (rb : Bool) (HN : Hid (CallsN 7 n d (x, y, 21))) (HX : Hid (CallsN 8 n d (x, y, 21))) (HO : Hid (CallsO 10 k)) (HO2 : Hid (CallsO 11 k)) (HR : Hid (AskR n d rb)) (HR2 : Hid (AskX n d rb)) :
    Calls Tryd.prog 3 #[.int .i64 n, .int .i64 d, .int .i64 k] w fun e w' => e = .returned (.bool true) ∧ Below w.heap.size w w' := by
  go_enter Tryd.func3, Tryd.ntmps3
  go_wp2_with fail
  refine (HN.out _).mono ?_
  rintro e w1 ⟨rfl, hb⟩
  have hB1 : Below w.heap.size w w1 := beyond (Below.refl _ _) hb
  clear hb
  have rB1 : ∀ O, Below w.heap.size w (w1.alloc O) := fun O => beyond hB1 (single _ _)
  go_wp2_with fail
  refine (HX.out _).mono ?_
  rintro e w2 ⟨rfl, hb⟩
  have f2_0 := kc ⟨w1.heap.size, 0, none⟩ (.int .i64 x) hb (new_cell w1 _ _ 0)
  have f2_1 := kc ⟨w1.heap.size, 1, none⟩ (.int .i64 y) hb (new_cell w1 _ _ 1)
  have hB2 : Below w.heap.size w w2 := beyond (rB1 _) hb
  clear hb rB1 hB1
  go_upto_region 4 with (fail)
  have d0 : ((w2.alloc (.cells #[.int .i64 x, .int .i64 y] 23)).alloc (.cells #[.int .i64 n, .int .i64 d] 23)).cell? ⟨w1.heap.size, 0, none⟩ = some (.int .i64 x) := kc _ _ (two _ _ _) f2_0
  have d1 : ((w2.alloc (.cells #[.int .i64 x, .int .i64 y] 23)).alloc (.cells #[.int .i64 n, .int .i64 d] 23)).cell? ⟨w1.heap.size, 1, none⟩ = some (.int .i64 y) := kc _ _ (two _ _ _) f2_1
  have d2 : ((w2.alloc (.cells #[.int .i64 x, .int .i64 y] 23)).alloc (.cells #[.int .i64 n, .int .i64 d] 23)).cell? ⟨w2.heap.size, 0, none⟩ = some (.int .i64 x) := newC3 w2 _ _ _ 0
  have d3 : ((w2.alloc (.cells #[.int .i64 x, .int .i64 y] 23)).alloc (.cells #[.int .i64 n, .int .i64 d] 23)).cell? ⟨w2.heap.size, 1, none⟩ = some (.int .i64 y) := newC3 w2 _ _ _ 1
  have d4 : ((w2.alloc (.cells #[.int .i64 x, .int .i64 y] 23)).alloc (.cells #[.int .i64 n, .int .i64 d] 23)).cell? ⟨w2.heap.size + 1, 0, none⟩ = some (.int .i64 n) := newC2 w2 _ _ _ 0
  have d5 : ((w2.alloc (.cells #[.int .i64 x, .int .i64 y] 23)).alloc (.cells #[.int .i64 n, .int .i64 d] 23)).cell? ⟨w2.heap.size + 1, 1, none⟩ = some (.int .i64 d) := newC2 w2 _ _ _ 1
  have hW : Below w.heap.size w ((w2.alloc (.cells #[.int .i64 x, .int .i64 y] 23)).alloc (.cells #[.int .i64 n, .int .i64 d] 23)) := beyond hB2 (two _ _ _)
  clear f2_0 f2_1 hB2 HN HX
  generalize ((w2.alloc (.cells #[.int .i64 x, .int .i64 y] 23)).alloc (.cells #[.int .i64 n, .int .i64 d] 23)) = W at *
  generalize w2.heap.size + 1 = br at *
  generalize w2.heap.size = bb at *
  generalize w1.heap.size = ba at *
  refine wp_region_noPanic ?_
  refine wp_region_held_drew (S := fun w' => w'.cell? ⟨ba, 0, none⟩ = some (.int .i64 x) ∧ w'.cell? ⟨ba, 1, none⟩ = some (.int .i64 y) ∧ w'.cell? ⟨bb, 0, none⟩ = some (.int .i64 x) ∧ w'.cell? ⟨bb, 1, none⟩ = some (.int .i64 y) ∧ w'.cell? ⟨br, 0, none⟩ = some (.int .i64 n) ∧ w'.cell? ⟨br, 1, none⟩ = some (.int .i64 d) ∧ Below w.heap.size w w') (by kernel_rfl) ?_ (fun hHeld => ?_)
  · (try dsimp only); first | exact ⟨by assumption, by assumption, by assumption, by assumption, by assumption, by assumption, by first | assumption | exact Below.drew (by assumption)⟩ | go_keep
  refine wpAnyH_ready (rs := [0]) (by kernel_rfl) (by simp) ?_
  refine AllReadyH.cons (o := ⟨_, _, _, _, _, _⟩) rfl (fun K hK => ?_) AllReadyH.nil
  go_simp
  go_at_call 9
  refine (live_any _ (pow_later ht (by first | assumption | exact Below.drew (by assumption)))).mono ?_
  rintro e' w' ⟨rfl, hb⟩
  have s0 := kc ⟨ba, 0, none⟩ (.int .i64 x) hb (by first | assumption | simp [go_sem, *])
  have s1 := kc ⟨ba, 1, none⟩ (.int .i64 y) hb (by first | assumption | simp [go_sem, *])
  have s2 := kc ⟨bb, 0, none⟩ (.int .i64 x) hb (by first | assumption | simp [go_sem, *])
  have s3 := kc ⟨bb, 1, none⟩ (.int .i64 y) hb (by first | assumption | simp [go_sem, *])
  have s4 := kc ⟨br, 0, none⟩ (.int .i64 n) hb (by first | assumption | simp [go_sem, *])
  have s5 := kc ⟨br, 1, none⟩ (.int .i64 d) hb (by first | assumption | simp [go_sem, *])
  have hX := beyond (w := w) (by first | assumption | exact Below.drew (by assumption)) hb
  clear hb
  try go_wp2_with fail
  refine hK.out _ _ ?_ (fun hHeld => ?_)
  · (try dsimp only); first | exact ⟨by assumption, by assumption, by assumption, by assumption, by assumption, by assumption, by first | assumption | exact Below.drew (by assumption)⟩ | go_keep
  clear hK K
  try simp only [Act.put, List.setIfInBounds_toArray, List.set_cons_zero, List.set_cons_succ]
  refine wpAnyH_take (i := 1) (oi := ⟨_, _, _, _, _, _⟩) (v := ?_) rfl (by kernel_rfl) (by kernel_rfl) (by kernel_rfl) (fun _ _ _ h => h) (Or.inl ⟨by rfl, ?_⟩) (by assumption) ?_
  rotate_left
  · intro w hSw; (try dsimp only at hSw); first | (go_simp; done) | (go_simp; with_reducible rfl)
  try simp only [Act.put, List.setIfInBounds_toArray, List.set_cons_zero, List.set_cons_succ]
  refine wpAnyH_take (i := 2) (oi := ⟨_, _, _, _, _, _⟩) (v := ?_) rfl (by kernel_rfl) (by kernel_rfl) (by kernel_rfl) (fun _ _ _ h => h) (Or.inl ⟨by rfl, ?_⟩) (by assumption) ?_
  rotate_left
  · intro w hSw; (try dsimp only at hSw); first | (go_simp; done) | (go_simp; with_reducible rfl)
  try simp only [Act.put, List.setIfInBounds_toArray, List.set_cons_zero, List.set_cons_succ]
  refine wpAnyH_take (i := 3) (oi := ⟨_, _, _, _, _, _⟩) (v := ?_) rfl (by kernel_rfl) (by kernel_rfl) (by kernel_rfl) (fun _ _ _ h => h) (Or.inl ⟨by rfl, ?_⟩) (by assumption) ?_
  rotate_left
  · intro w hSw; (try dsimp only at hSw); first | (go_simp; done) | (go_simp; with_reducible rfl)
  try simp only [Act.put, List.setIfInBounds_toArray, List.set_cons_zero, List.set_cons_succ]
  refine wpAnyH_take (i := 4) (oi := ⟨_, _, _, _, _, _⟩) (v := ?_) rfl (by kernel_rfl) (by kernel_rfl) (by kernel_rfl) (fun _ _ _ h => h) (Or.inl ⟨by rfl, ?_⟩) (by assumption) ?_
  rotate_left
  · intro w hSw; (try dsimp only at hSw); first | (go_simp; done) | (go_simp; with_reducible rfl)
  try simp only [Act.put, List.setIfInBounds_toArray, List.set_cons_zero, List.set_cons_succ]
  refine wpAnyH_take (i := 5) (oi := ⟨_, _, _, _, _, _⟩) (v := ?_) rfl (by kernel_rfl) (by kernel_rfl) (by kernel_rfl) (fun _ _ _ h => h) (Or.inl ⟨by rfl, ?_⟩) (by assumption) ?_
  rotate_left
  · intro w hSw; (try dsimp only at hSw); first | (go_simp; done) | (go_simp; with_reducible rfl)
  try simp only [Act.put, List.setIfInBounds_toArray, List.set_cons_zero, List.set_cons_succ]
  refine wpAnyH_take (i := 6) (oi := ⟨_, _, _, _, _, _⟩) (v := ?_) rfl (by kernel_rfl) (by kernel_rfl) (by kernel_rfl) (fun _ _ _ h => h) (Or.inl ⟨by rfl, ?_⟩) (by assumption) ?_
  rotate_left
  · intro w hSw; (try dsimp only at hSw); first | (go_simp; done) | (go_simp; with_reducible rfl)
  try simp only [Act.put, List.setIfInBounds_toArray, List.set_cons_zero, List.set_cons_succ]
  refine wpAnyH_take (i := 7) (oi := ⟨_, _, _, _, _, _⟩) (v := ?_) rfl (by kernel_rfl) (by kernel_rfl) (by kernel_rfl) (fun _ _ _ h => h) (Or.inl ⟨by rfl, ?_⟩) (by assumption) ?_
  rotate_left
  · intro w hSw; (try dsimp only at hSw); first | (go_simp; done) | (go_simp; with_reducible rfl)
  try simp only [Act.put, List.setIfInBounds_toArray, List.set_cons_zero, List.set_cons_succ]
  refine wpAnyH_take (i := 8) (oi := ⟨_, _, _, _, _, _⟩) (v := ?_) rfl (by kernel_rfl) (by kernel_rfl) (by kernel_rfl) (fun _ _ _ h => h) (Or.inl ⟨by rfl, ?_⟩) (by assumption) ?_
  rotate_left
  · intro w hSw; (try dsimp only at hSw); first | (go_simp; done) | (go_simp; with_reducible rfl)
  try simp only [Act.put, List.setIfInBounds_toArray, List.set_cons_zero, List.set_cons_succ]
  refine wpAnyH_take (i := 9) (oi := ⟨_, _, _, _, _, _⟩) (v := ?_) rfl (by kernel_rfl) (by kernel_rfl) (by kernel_rfl) (fun _ _ _ h => h) (Or.inl ⟨by rfl, ?_⟩) (by assumption) ?_
  rotate_left
  · intro w hSw; (try dsimp only at hSw); first | (go_simp; done) | (go_simp; with_reducible rfl)
  try simp only [Act.put, List.setIfInBounds_toArray, List.set_cons_zero, List.set_cons_succ]
  refine wpAnyH_take (i := 10) (oi := ⟨_, _, _, _, _, _⟩) (v := ?_) rfl (by kernel_rfl) (by kernel_rfl) (by kernel_rfl) (fun _ _ _ h => h) (Or.inl ⟨by rfl, ?_⟩) (by assumption) ?_
  rotate_left
  · intro w hSw; (try dsimp only at hSw); first | (go_simp; done) | (go_simp; with_reducible rfl)
  try simp only [Act.put, List.setIfInBounds_toArray, List.set_cons_zero, List.set_cons_succ]
  refine wpAnyH_take (i := 11) (oi := ⟨_, _, _, _, _, _⟩) (v := ?_) rfl (by kernel_rfl) (by kernel_rfl) (by kernel_rfl) (fun _ _ _ h => h) (Or.inl ⟨by rfl, ?_⟩) (by assumption) ?_
  rotate_left
  · intro w hSw; (try dsimp only at hSw); first | (go_simp; done) | (go_simp; with_reducible rfl)
  try simp only [Act.put, List.setIfInBounds_toArray, List.set_cons_zero, List.set_cons_succ]
  refine wpAnyH_take (i := 12) (oi := ⟨_, _, _, _, _, _⟩) (v := ?_) rfl (by kernel_rfl) (by kernel_rfl) (by kernel_rfl) (fun _ _ _ h => h) (Or.inl ⟨by rfl, ?_⟩) (by assumption) ?_
  rotate_left
  · intro w hSw; (try dsimp only at hSw); first | (go_simp; done) | (go_simp; with_reducible rfl)
  try simp only [Act.put, List.setIfInBounds_toArray, List.set_cons_zero, List.set_cons_succ]
  refine wpAnyH_take (i := 14) (oi := ⟨_, _, _, _, _, _⟩) (v := ?_) rfl (by kernel_rfl) (by kernel_rfl) (by kernel_rfl) (fun _ _ _ h => h) (Or.inl ⟨by rfl, ?_⟩) (by assumption) ?_
  rotate_left
  · intro w hSw; (try dsimp only at hSw); first | (go_simp; done) | (go_simp; with_reducible rfl)
  try simp only [Act.put, List.setIfInBounds_toArray, List.set_cons_zero, List.set_cons_succ]
  refine wpAnyH_ready (rs := [13]) (by kernel_rfl) (by simp) ?_
  refine AllReadyH.cons (o := ⟨_, _, _, _, _, _⟩) rfl (fun K hK => ?_) AllReadyH.nil
  go_simp
  go_at_call 10
  refine (HO.out _).mono ?_
  rintro e' w' ⟨rfl, hb⟩
  have s0 := kc ⟨ba, 0, none⟩ (.int .i64 x) hb (by first | assumption | simp [go_sem, *])
  have s1 := kc ⟨ba, 1, none⟩ (.int .i64 y) hb (by first | assumption | simp [go_sem, *])
  have s2 := kc ⟨bb, 0, none⟩ (.int .i64 x) hb (by first | assumption | simp [go_sem, *])
  have s3 := kc ⟨bb, 1, none⟩ (.int .i64 y) hb (by first | assumption | simp [go_sem, *])
  have s4 := kc ⟨br, 0, none⟩ (.int .i64 n) hb (by first | assumption | simp [go_sem, *])
  have s5 := kc ⟨br, 1, none⟩ (.int .i64 d) hb (by first | assumption | simp [go_sem, *])
  have hX := beyond (w := w) (by first | assumption | exact Below.drew (by assumption)) hb
  clear hb
  try go_wp2_with fail
  refine hK.out _ _ ?_ (fun hHeld => ?_)
  · (try dsimp only); first | exact ⟨by assumption, by assumption, by assumption, by assumption, by assumption, by assumption, by first | assumption | exact Below.drew (by assumption)⟩ | go_keep
  clear hK K
  try simp only [Act.put, List.setIfInBounds_toArray, List.set_cons_zero, List.set_cons_succ]
  refine wpAnyH_ready (rs := [15]) (by kernel_rfl) (by simp) ?_
  refine AllReadyH.cons (o := ⟨_, _, _, _, _, _⟩) rfl (fun K hK => ?_) AllReadyH.nil
  go_simp
  go_at_call 11
  refine (HO2.out _).mono ?_
  rintro e' w' ⟨rfl, hb⟩
  have s0 := kc ⟨ba, 0, none⟩ (.int .i64 x) hb (by first | assumption | simp [go_sem, *])
  have s1 := kc ⟨ba, 1, none⟩ (.int .i64 y) hb (by first | assumption | simp [go_sem, *])
  have s2 := kc ⟨bb, 0, none⟩ (.int .i64 x) hb (by first | assumption | simp [go_sem, *])
  have s3 := kc ⟨bb, 1, none⟩ (.int .i64 y) hb (by first | assumption | simp [go_sem, *])
  have s4 := kc ⟨br, 0, none⟩ (.int .i64 n) hb (by first | assumption | simp [go_sem, *])
  have s5 := kc ⟨br, 1, none⟩ (.int .i64 d) hb (by first | assumption | simp [go_sem, *])
  have hX := beyond (w := w) (by first | assumption | exact Below.drew (by assumption)) hb
  clear hb
  try go_wp2_with fail
  refine hK.out _ _ ?_ (fun hHeld => ?_)
  · (try dsimp only); first | exact ⟨by assumption, by assumption, by assumption, by assumption, by assumption, by assumption, by first | assumption | exact Below.drew (by assumption)⟩ | go_keep
  clear hK K
  try simp only [Act.put, List.setIfInBounds_toArray, List.set_cons_zero, List.set_cons_succ]
  refine wpAnyH_take (i := 16) (oi := ⟨_, _, _, _, _, _⟩) (v := ?_) rfl (by kernel_rfl) (by kernel_rfl) (by kernel_rfl) (fun _ _ _ h => h) (Or.inl ⟨by rfl, ?_⟩) (by assumption) ?_
  rotate_left
  · intro w hSw; (try dsimp only at hSw); first | (go_simp; done) | (go_simp; with_reducible rfl)
  try simp only [Act.put, List.setIfInBounds_toArray, List.set_cons_zero, List.set_cons_succ]
  refine wpAnyH_take (i := 17) (oi := ⟨_, _, _, _, _, _⟩) (v := ?_) rfl (by kernel_rfl) (by kernel_rfl) (by kernel_rfl) (fun _ _ _ h => h) (Or.inl ⟨by rfl, ?_⟩) (by assumption) ?_
  rotate_left
  · intro w hSw; (try dsimp only at hSw); first | (go_simp; done) | (go_simp; with_reducible rfl)
  try simp only [Act.put, List.setIfInBounds_toArray, List.set_cons_zero, List.set_cons_succ]
  refine wpAnyH_take (i := 18) (oi := ⟨_, _, _, _, _, _⟩) (v := ?_) rfl (by kernel_rfl) (by kernel_rfl) (by kernel_rfl) (fun _ _ _ h => h) (Or.inl ⟨by rfl, ?_⟩) (by assumption) ?_
  rotate_left
  · intro w hSw; (try dsimp only at hSw); first | (go_simp; done) | (go_simp; with_reducible rfl)
  try simp only [Act.put, List.setIfInBounds_toArray, List.set_cons_zero, List.set_cons_succ]
  refine wpAnyH_take (i := 19) (oi := ⟨_, _, _, _, _, _⟩) (v := ?_) rfl (by kernel_rfl) (by kernel_rfl) (by kernel_rfl) (fun _ _ _ h => h) (Or.inl ⟨by rfl, ?_⟩) (by assumption) ?_
  rotate_left
  · intro w hSw; (try dsimp only at hSw); first | (go_simp; done) | (go_simp; with_reducible rfl)
  try simp only [Act.put, List.setIfInBounds_toArray, List.set_cons_zero, List.set_cons_succ]
  refine wpAnyH_take (i := 21) (oi := ⟨_, _, _, _, _, _⟩) (v := ?_) rfl (by kernel_rfl) (by kernel_rfl) (by kernel_rfl) (fun _ _ _ h => h) (Or.inl ⟨by rfl, ?_⟩) (by assumption) ?_
  rotate_left
  · intro w hSw; (try dsimp only at hSw); first | (go_simp; done) | (go_simp; with_reducible rfl)
  try simp only [Act.put, List.setIfInBounds_toArray, List.set_cons_zero, List.set_cons_succ]
  refine wpAnyH_ready (rs := [20]) (by kernel_rfl) (by simp) ?_
  refine AllReadyH.cons (o := ⟨_, _, _, _, _, _⟩) rfl (fun K hK => ?_) AllReadyH.nil
  go_simp
  go_at_call_of 12 n
  refine (HR.out _).mono ?_
  rintro e' w' ⟨rfl, hb⟩
  have s0 := kc ⟨ba, 0, none⟩ (.int .i64 x) hb (by first | assumption | simp [go_sem, *])
  have s1 := kc ⟨ba, 1, none⟩ (.int .i64 y) hb (by first | assumption | simp [go_sem, *])
  have s2 := kc ⟨bb, 0, none⟩ (.int .i64 x) hb (by first | assumption | simp [go_sem, *])
  have s3 := kc ⟨bb, 1, none⟩ (.int .i64 y) hb (by first | assumption | simp [go_sem, *])
  have s4 := kc ⟨br, 0, none⟩ (.int .i64 n) hb (by first | assumption | simp [go_sem, *])
  have s5 := kc ⟨br, 1, none⟩ (.int .i64 d) hb (by first | assumption | simp [go_sem, *])
  have hX := beyond (w := w) (by first | assumption | exact Below.drew (by assumption)) hb
  clear hb
  try go_wp2_with fail
  refine hK.out _ _ ?_ (fun hHeld => ?_)
  · (try dsimp only); first | exact ⟨by assumption, by assumption, by assumption, by assumption, by assumption, by assumption, by first | assumption | exact Below.drew (by assumption)⟩ | go_keep
  clear hK K
  try simp only [Act.put, List.setIfInBounds_toArray, List.set_cons_zero, List.set_cons_succ]
  refine wpAnyH_ready (rs := [22]) (by kernel_rfl) (by simp) ?_
  refine AllReadyH.cons (o := ⟨_, _, _, _, _, _⟩) rfl (fun K hK => ?_) AllReadyH.nil
  go_simp
  go_at_call 13
  refine (HR2.out _).mono ?_
  rintro e' w' ⟨rfl, hb⟩
  have s0 := kc ⟨ba, 0, none⟩ (.int .i64 x) hb (by first | assumption | simp [go_sem, *])
  have s1 := kc ⟨ba, 1, none⟩ (.int .i64 y) hb (by first | assumption | simp [go_sem, *])
  have s2 := kc ⟨bb, 0, none⟩ (.int .i64 x) hb (by first | assumption | simp [go_sem, *])
  have s3 := kc ⟨bb, 1, none⟩ (.int .i64 y) hb (by first | assumption | simp [go_sem, *])
  have s4 := kc ⟨br, 0, none⟩ (.int .i64 n) hb (by first | assumption | simp [go_sem, *])
  have s5 := kc ⟨br, 1, none⟩ (.int .i64 d) hb (by first | assumption | simp [go_sem, *])
  have hX := beyond (w := w) (by first | assumption | exact Below.drew (by assumption)) hb
  clear hb
  try go_wp2_with fail
  refine hK.out _ _ ?_ (fun hHeld => ?_)
  · (try dsimp only); first | exact ⟨by assumption, by assumption, by assumption, by assumption, by assumption, by assumption, by first | assumption | exact Below.drew (by assumption)⟩ | go_keep
  clear hK K
  try simp only [Act.put, List.setIfInBounds_toArray, List.set_cons_zero, List.set_cons_succ]
  refine wpAnyH_take (i := 23) (oi := ⟨_, _, _, _, _, _⟩) (v := ?_) rfl (by kernel_rfl) (by kernel_rfl) (by kernel_rfl) (fun _ _ _ h => h) (Or.inl ⟨by rfl, ?_⟩) (by assumption) ?_
  rotate_left
  · intro w hSw; (try dsimp only at hSw); first | (go_simp; done) | (go_simp; with_reducible rfl)
  try simp only [Act.put, List.setIfInBounds_toArray, List.set_cons_zero, List.set_cons_succ]
  refine wpAnyH_take (i := 24) (oi := ⟨_, _, _, _, _, _⟩) (v := ?_) rfl (by kernel_rfl) (by kernel_rfl) (by kernel_rfl) (fun _ _ _ h => h) (Or.inl ⟨by rfl, ?_⟩) (by assumption) ?_
  rotate_left
  · intro w hSw; (try dsimp only at hSw); first | (go_simp; done) | (go_simp; with_reducible rfl)
  try simp only [Act.put, List.setIfInBounds_toArray, List.set_cons_zero, List.set_cons_succ]
  refine wpAnyH_take (i := 25) (oi := ⟨_, _, _, _, _, _⟩) (v := ?_) rfl (by kernel_rfl) (by kernel_rfl) (by kernel_rfl) (fun _ _ _ h => h) (Or.inl ⟨by rfl, ?_⟩) (by assumption) ?_
  rotate_left
  · intro w hSw; (try dsimp only at hSw); first | (go_simp; done) | (go_simp; with_reducible rfl)
  try simp only [Act.put, List.setIfInBounds_toArray, List.set_cons_zero, List.set_cons_succ]
  refine wpAnyH_take (i := 26) (oi := ⟨_, _, _, _, _, _⟩) (v := ?_) rfl (by kernel_rfl) (by kernel_rfl) (by kernel_rfl) (fun _ _ _ h => h) (Or.inl ⟨by rfl, ?_⟩) (by assumption) ?_
  rotate_left
  · intro w hSw; (try dsimp only at hSw); first | (go_simp; done) | (go_simp; with_reducible rfl)
  try simp only [Act.put, List.setIfInBounds_toArray, List.set_cons_zero, List.set_cons_succ]
  refine wpAnyH_take (i := 27) (oi := ⟨_, _, _, _, _, _⟩) (v := ?_) rfl (by kernel_rfl) (by kernel_rfl) (by kernel_rfl) (fun _ _ _ h => h) (Or.inl ⟨by rfl, ?_⟩) (by assumption) ?_
  rotate_left
  · intro w hSw; (try dsimp only at hSw); first | (go_simp; done) | (go_simp; with_reducible rfl)
  try simp only [Act.put, List.setIfInBounds_toArray, List.set_cons_zero, List.set_cons_succ]
  refine wpAnyH_take (i := 28) (oi := ⟨_, _, _, _, _, _⟩) (v := ?_) rfl (by kernel_rfl) (by kernel_rfl) (by kernel_rfl) (fun _ _ _ h => h) (Or.inl ⟨by rfl, ?_⟩) (by assumption) ?_
  rotate_left
  · intro w hSw; (try dsimp only at hSw); first | (go_simp; done) | (go_simp; with_reducible rfl)
  try simp only [Act.put, List.setIfInBounds_toArray, List.set_cons_zero, List.set_cons_succ]
  refine wpAnyH_take (i := 29) (oi := ⟨_, _, _, _, _, _⟩) (v := undef) rfl (by kernel_rfl) (by kernel_rfl) (by kernel_rfl) (fun _ _ _ h => h) (Or.inr ⟨by rfl, rfl⟩) (by assumption) ?_
  try simp only [Act.put, List.setIfInBounds_toArray, List.set_cons_zero, List.set_cons_succ]
  refine wpAnyH_ready (rs := [30]) (by kernel_rfl) (by simp) ?_
  refine AllReadyH.cons (o := ⟨_, _, _, _, _, _⟩) rfl (fun K hK => ?_) AllReadyH.nil
  go_simp
  refine hK.out _ _ ?_ (fun hHeld => ?_)
  · (try dsimp only); first | exact ⟨by assumption, by assumption, by assumption, by assumption, by assumption, by assumption, by first | assumption | exact Below.drew (by assumption)⟩ | go_keep
  clear hK K
  try simp only [Act.put, List.setIfInBounds_toArray, List.set_cons_zero, List.set_cons_succ]
  refine wpAnyH_take (i := 31) (oi := ⟨_, _, _, _, _, _⟩) (v := ?_) rfl (by kernel_rfl) (by kernel_rfl) (by kernel_rfl) (fun _ _ _ h => h) (Or.inl ⟨by rfl, ?_⟩) (by assumption) ?_
  rotate_left
  · intro w hSw; (try dsimp only at hSw); first | (go_simp; done) | (go_simp; with_reducible rfl)
  try simp only [Act.put, List.setIfInBounds_toArray, List.set_cons_zero, List.set_cons_succ]
  refine wpAnyH_take (i := 32) (oi := ⟨_, _, _, _, _, _⟩) (v := ?_) rfl (by kernel_rfl) (by kernel_rfl) (by kernel_rfl) (fun _ _ _ h => h) (Or.inl ⟨by rfl, ?_⟩) (by assumption) ?_
  rotate_left
  · intro w hSw; (try dsimp only at hSw); first | (go_simp; done) | (go_simp; with_reducible rfl)
  try simp only [Act.put, List.setIfInBounds_toArray, List.set_cons_zero, List.set_cons_succ]
  refine wpAnyH_take (i := 33) (oi := ⟨_, _, _, _, _, _⟩) (v := ?_) rfl (by kernel_rfl) (by kernel_rfl) (by kernel_rfl) (fun _ _ _ h => h) (Or.inl ⟨by rfl, ?_⟩) (by assumption) ?_
  rotate_left
  · intro w hSw; (try dsimp only at hSw); first | (go_simp; done) | (go_simp; with_reducible rfl)
  try simp only [Act.put, List.setIfInBounds_toArray, List.set_cons_zero, List.set_cons_succ]
  refine wpAnyH_done (by kernel_rfl) ?_ _
  refine NoPanic.normal ?_
  go_wp2_with fail
  go_ret
  exact ⟨rfl, by assumption⟩
theorem new_ok (n d : Int) (h : (newT n d).2.2 = 0) : rightR (newT n d).1 (newT n d).2.1 = true ∧ I64 (newT n d).1 ∧ I64 (newT n d).2.1 := by
  unfold newT at *
  split at h
  · cases h
  · rename_i z
    rw [if_neg z]
    have p : 0 < sz d := by unfold sz; split <;> omega
    obtain ⟨r, -, x0, x1, y1⟩ := can_ok p h
    obtain ⟨y0, -⟩ := right_iff.1 r
    exact ⟨r, ⟨x0, x1⟩, by omega, y1⟩
theorem new_err (n d : Int) : (newT n d).2.2 = 0 ∨ (newT n d).2.2 = 20 ∨ (newT n d).2.2 = 21 := by
  unfold newT
  split
  · exact Or.inr (Or.inr rfl)
  · unfold canR hR heldE
    dsimp only
    split
    · exact Or.inl rfl
    · exact Or.inr (Or.inl rfl)
theorem ratNews.walk (n : Int) (hn : (Lit.int .i64 n).wf = true) (d : Int) (hd : (Lit.int .i64 d).wf = true) (k : Int) (hk : (Lit.int .i64 k).wf = true) (w : World) (ht : Pow w) :
    Calls Tryd.prog 3 #[.int .i64 n, .int .i64 d, .int .i64 k] w fun e w' => e = .returned (.bool true) ∧ Below w.heap.size w w' := by
  have h1 := i64_wf hn
  have h2 := i64_wf hd
  have N1 : CallsN 7 n d (newT n d) := fun w => rnew_any n d w h1 h2
  have N2 : CallsN 8 n d (newT n d) := fun w => xnew_any n d w h1 h2
  have O1 : CallsO 10 k := fun w => ratOf_any k w
  have O2 : CallsO 11 k := fun w => xof_any k w
  have R1 : AskR n d (rightR n d) := askR n d h1 h2
  have R2 : AskX n d (rightR n d) := fun w => xright_any n d w h1 h2
  have R3 : (newT n d).2.2 = 0 → AskR (newT n d).1 (newT n d).2.1 true := fun h => by
    obtain ⟨r, a, b⟩ := new_ok n d h
    exact ask_at _ _ a b r
  have E := new_err n d
  generalize newT n d = t at *
  obtain ⟨x, y, e⟩ := t
  dsimp only at E
  cases r : rightR n d
  · rw [r] at R1 R2
    rcases E with c | c | c
    · subst c
      exact news_ok_false n d k x y w ht N1 N2 O1 O2 R1 R2 (R3 rfl)
    · subst c
      exact news_no20 n d k x y w ht false N1 N2 O1 O2 R1 R2
    · subst c
      exact news_no21 n d k x y w ht false N1 N2 O1 O2 R1 R2
  · rw [r] at R1 R2
    rcases E with c | c | c
    · subst c
      exact news_ok_true n d k x y w ht N1 N2 O1 O2 R1 R2 (R3 rfl)
    · subst c
      exact news_no20 n d k x y w ht true N1 N2 O1 O2 R1 R2
    · subst c
      exact news_no21 n d k x y w ht true N1 N2 O1 O2 R1 R2
end Go.Proofs.YtnhopmoboahlgaaDoor
