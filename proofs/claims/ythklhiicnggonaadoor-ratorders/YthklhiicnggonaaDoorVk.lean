/-
  The walk of the statement RatParts.
-/
import Derived.Test.YthklhiicnggonaaDoorXe
import Derived.Test.YthklhiicnggonaaDoorVj
namespace Go.Proofs.YthklhiicnggonaaDoor
open Go.RowKit Go.Shelf
set_option linter.unusedVariables false
theorem newPairR {Y w' : World} {T : TypeId} (hb : Below (Y.alloc (.cells #[.int .i64 0, .int .i64 0] T)).heap.size (Y.alloc (.cells #[.int .i64 0, .int .i64 0] T)) w') :
    w'.cell? ⟨Y.heap.size, 0, none⟩ = some (.int .i64 0) ∧ w'.cell? ⟨Y.heap.size, 1, none⟩ = some (.int .i64 0) ∧ w'.frozen? ⟨Y.heap.size, 0, none⟩ = false ∧ w'.frozen? ⟨Y.heap.size, 1, none⟩ = false ∧ Y.heap.size < w'.heap.size ∧ ¬ w'.heap.size = Y.heap.size := by
  have c0 := kc ⟨Y.heap.size, 0, none⟩ (.int .i64 0) hb (new_cell Y _ _ 0)
  have c1 := kc ⟨Y.heap.size, 1, none⟩ (.int .i64 0) hb (new_cell Y _ _ 1)
  have k := World.block_lt_of_cell? _ _ c0
  have k' : Y.heap.size < w'.heap.size := k
  exact ⟨c0, c1, kf ⟨Y.heap.size, 0, none⟩ (.int .i64 0) hb (new_cell Y _ _ 0) (new_frozen Y _ _ 0), kf ⟨Y.heap.size, 1, none⟩ (.int .i64 0) hb (new_cell Y _ _ 1) (new_frozen Y _ _ 1), k', by omega⟩
theorem newPairRD {Y w' : World} {T : TypeId} (hb : Below (Y.alloc (.cells #[.int .i64 0, .int .i64 0] T)).drew.heap.size (Y.alloc (.cells #[.int .i64 0, .int .i64 0] T)).drew w') :
    w'.cell? ⟨Y.heap.size, 0, none⟩ = some (.int .i64 0) ∧ w'.cell? ⟨Y.heap.size, 1, none⟩ = some (.int .i64 0) ∧ w'.frozen? ⟨Y.heap.size, 0, none⟩ = false ∧ w'.frozen? ⟨Y.heap.size, 1, none⟩ = false ∧ Y.heap.size < w'.heap.size ∧ ¬ w'.heap.size = Y.heap.size := newPairR (undrew hb)
theorem newPairRI {Y w' : World} {T : TypeId} (hb : Below (Y.drew.alloc (.cells #[.int .i64 0, .int .i64 0] T)).heap.size (Y.drew.alloc (.cells #[.int .i64 0, .int .i64 0] T)) w') :
    w'.cell? ⟨Y.heap.size, 0, none⟩ = some (.int .i64 0) ∧ w'.cell? ⟨Y.heap.size, 1, none⟩ = some (.int .i64 0) ∧ w'.frozen? ⟨Y.heap.size, 0, none⟩ = false ∧ w'.frozen? ⟨Y.heap.size, 1, none⟩ = false ∧ Y.heap.size < w'.heap.size ∧ ¬ w'.heap.size = Y.heap.size := newPairR (Y := Y.drew) hb
theorem parts_not (n d : Int) (w : World) (ht : Pow w) (HR : Hid (AskR n d false))
    (HX : Hid (∀ w, Calls Tryd.prog 14 #[rv n d] w fun e w' => e = .returned (.bool false) ∧ Below w.heap.size w w')) :
    Calls Tryd.prog 7 #[rv n d] w fun e w' => e = .returned (.bool true) ∧ Below w.heap.size w w' := by
  go_enter Tryd.func7, Tryd.ntmps7
  go_wp2_with fail
  refine (HR.out _).mono ?_
  rintro e w1 ⟨rfl, hb⟩
  have f1_0 := kc ⟨w.heap.size, 0, none⟩ (.int .i64 n) hb (by first | assumption | simp [go_sem, *])
  have f1_1 := kc ⟨w.heap.size, 1, none⟩ (.int .i64 d) hb (by first | assumption | simp [go_sem, *])
  have hB1 : Below w.heap.size w w1 := beyond (single w _) hb
  clear hb
  go_wp2_with fail
  refine (live_any _ (pow_later ht (hB1))).mono ?_
  rintro e w2 ⟨rfl, hb⟩
  have f2_0 := kc ⟨w.heap.size, 0, none⟩ (.int .i64 n) hb f1_0
  have f2_1 := kc ⟨w.heap.size, 1, none⟩ (.int .i64 d) hb f1_1
  have hB2 : Below w.heap.size w w2 := beyond (hB1) hb
  clear hb f1_0 f1_1 hB1
  go_wp2_with fail
  refine (HX.out _).mono ?_
  rintro e w3 ⟨rfl, hb⟩
  have f3_0 := kc ⟨w.heap.size, 0, none⟩ (.int .i64 n) hb f2_0
  have f3_1 := kc ⟨w.heap.size, 1, none⟩ (.int .i64 d) hb f2_1
  have hB3 : Below w.heap.size w w3 := beyond (hB2) hb
  clear hb f2_0 f2_1 hB2
  go_wp2_with fail
  go_ret
  exact ⟨rfl, hB3⟩
set_option maxRecDepth 100000 in
set_option maxHeartbeats 8000000 in
theorem parts_zero (n d q : Int) (w : World) (ht : Pow w) (y1 : 0 < d) (HR : Hid (AskR n d true))
    (HFr : Hid (∀ w, Calls Tryd.prog 25 #[rv n d] w fun e w' => e = .returned (rv 0 d) ∧ Below w.heap.size w w'))
    (HFl : Hid (∀ w, Calls Tryd.prog 26 #[rv n d] w fun e w' => e = .returned (.int .i64 q) ∧ Below w.heap.size w w'))
    (HA : Hid (CallsT 15 q 1 0 d (n, d, 0)))
    (HC : Hid (∀ w, Calls Tryd.prog 27 #[rv n d] w fun e w' => e = .returned (.int .i64 q) ∧ Below w.heap.size w w')) :
    Calls Tryd.prog 7 #[rv n d] w fun e w' => e = .returned (.bool true) ∧ Below w.heap.size w w' := by
  go_enter Tryd.func7, Tryd.ntmps7
  go_wp2_with fail
  refine (HR.out _).mono ?_
  rintro e w1 ⟨rfl, hb⟩
  have f1_0 := kc ⟨w.heap.size, 0, none⟩ (.int .i64 n) hb (by first | assumption | simp [go_sem, *])
  have f1_1 := kc ⟨w.heap.size, 1, none⟩ (.int .i64 d) hb (by first | assumption | simp [go_sem, *])
  have hB1 : Below w.heap.size w w1 := beyond (single w _) hb
  clear hb
  go_wp2_with fail
  refine (HFr.out _).mono ?_
  rintro e w2 ⟨rfl, hb⟩
  have f2_0 := kc ⟨w.heap.size, 0, none⟩ (.int .i64 n) hb f1_0
  have f2_1 := kc ⟨w.heap.size, 1, none⟩ (.int .i64 d) hb f1_1
  have hB2 : Below w.heap.size w w2 := beyond (hB1) hb
  clear hb f1_0 f1_1 hB1
  have r2_0 : ∀ O, (w2.alloc O).cell? ⟨w.heap.size, 0, none⟩ = some (.int .i64 n) := fun O => kc _ _ (single _ _) f2_0
  have r2_1 : ∀ O, (w2.alloc O).cell? ⟨w.heap.size, 1, none⟩ = some (.int .i64 d) := fun O => kc _ _ (single _ _) f2_1
  have rB2 : ∀ O, Below w.heap.size w (w2.alloc O) := fun O => beyond hB2 (single _ _)
  go_wp2_with fail
  have hW := rB2 (.cells #[.int .i64 0, .int .i64 d] 23)
  have d0 := r2_0 (.cells #[.int .i64 0, .int .i64 d] 23)
  have d1 := r2_1 (.cells #[.int .i64 0, .int .i64 d] 23)
  have d2 : (w2.alloc (.cells #[.int .i64 0, .int .i64 d] 23)).cell? ⟨w2.heap.size, 0, none⟩ = some (.int .i64 0) := new_cell w2 _ _ 0
  have d3 : (w2.alloc (.cells #[.int .i64 0, .int .i64 d] 23)).cell? ⟨w2.heap.size, 1, none⟩ = some (.int .i64 d) := new_cell w2 _ _ 1
  clear r2_0 r2_1 rB2 f2_0 f2_1 hB2
  generalize (w2.alloc (.cells #[.int .i64 0, .int .i64 d] 23)) = W1 at *
  generalize w2.heap.size = bf at *
  have k1 : w.heap.size < W1.heap.size := World.block_lt_of_cell? _ _ d0
  have k2 : bf < W1.heap.size := World.block_lt_of_cell? _ _ d2
  have k3 : ¬ W1.heap.size = w.heap.size := by omega
  have k4 : ¬ W1.heap.size = bf := by omega
  have k5 : ¬ w.heap.size = W1.heap.size := by omega
  have k6 : ¬ bf = W1.heap.size := by omega
  go_cut [4, 5] (fun s t w' => ∃ bk : Nat, s = .pointer (some ⟨bk, 0, none⟩) ∧ t = .int .i64 0 ∧ w'.cell? ⟨bk, 0, none⟩ = some (.int .i64 n) ∧ w'.cell? ⟨bk, 1, none⟩ = some (.int .i64 d) ∧ w'.cell? ⟨w.heap.size, 0, none⟩ = some (.int .i64 n) ∧ w'.cell? ⟨w.heap.size, 1, none⟩ = some (.int .i64 d) ∧ w'.cell? ⟨bf, 0, none⟩ = some (.int .i64 0) ∧ w'.cell? ⟨bf, 1, none⟩ = some (.int .i64 d) ∧ Below w.heap.size w w')
  case first =>
    go_region_held3 (fun w' => w'.cell? ⟨w.heap.size, 0, none⟩ = some (.int .i64 n) ∧ w'.cell? ⟨w.heap.size, 1, none⟩ = some (.int .i64 d) ∧ w'.cell? ⟨bf, 0, none⟩ = some (.int .i64 0) ∧ w'.cell? ⟨bf, 1, none⟩ = some (.int .i64 d))
      (first | exact ⟨by assumption, by assumption, by assumption, by assumption⟩ | go_keep)
      (first
        | (go_at_call 26; refine (HFl.out _).mono ?_; rintro e w' ⟨rfl, hb⟩; have s0 := kc ⟨w.heap.size, 0, none⟩ (.int .i64 n) hb (by first | assumption | simp [go_sem, *]); have s1 := kc ⟨w.heap.size, 1, none⟩ (.int .i64 d) hb (by first | assumption | simp [go_sem, *]); have s2 := kc ⟨bf, 0, none⟩ (.int .i64 0) hb (by first | assumption | simp [go_sem, *]); have s3 := kc ⟨bf, 1, none⟩ (.int .i64 d) hb (by first | assumption | simp [go_sem, *]); (first | (with_reducible (have zz := newPairR hb); obtain ⟨z0, z1, y0', y1', y2', y3'⟩ := zz) | (with_reducible (have zz := newPairRD hb); obtain ⟨z0, z1, y0', y1', y2', y3'⟩ := zz) | (with_reducible (have zz := newPairRI hb); obtain ⟨z0, z1, y0', y1', y2', y3'⟩ := zz) | (have v0 := kc ⟨W1.heap.size, 0, none⟩ (.int .i64 0) hb (by assumption); have v1 := kc ⟨W1.heap.size, 1, none⟩ (.int .i64 0) hb (by assumption); have v2 := kf ⟨W1.heap.size, 0, none⟩ (.int .i64 0) hb (by assumption) (by assumption); have v3 := kf ⟨W1.heap.size, 1, none⟩ (.int .i64 0) hb (by assumption) (by assumption)) | skip); have hX := beyond (w := w) (by first | assumption | exact Below.drew (by assumption) | exact Below.alloc (by assumption) (Below.size (by assumption)) _ | exact Below.alloc (Below.drew (by assumption)) (Below.size (by assumption)) _ | exact Below.drew (Below.alloc (by assumption) (Below.size (by assumption)) _)) hb; have l5 : w.heap.size < w'.heap.size := World.block_lt_of_cell? _ _ s0; have l6 : bf < w'.heap.size := World.block_lt_of_cell? _ _ s2; have l2 : ¬ w'.heap.size = w.heap.size := (by omega); have l3 : ¬ w'.heap.size = bf := (by omega); have l4 : ¬ w.heap.size = w'.heap.size := (by omega); have l7 : ¬ bf = w'.heap.size := (by omega))
        | (go_at_call 15; refine (HA.out _).mono ?_; rintro e w' ⟨rfl, hb⟩; have s0 := kc ⟨w.heap.size, 0, none⟩ (.int .i64 n) hb (by first | assumption | simp [go_sem, *]); have s1 := kc ⟨w.heap.size, 1, none⟩ (.int .i64 d) hb (by first | assumption | simp [go_sem, *]); have s2 := kc ⟨bf, 0, none⟩ (.int .i64 0) hb (by first | assumption | simp [go_sem, *]); have s3 := kc ⟨bf, 1, none⟩ (.int .i64 d) hb (by first | assumption | simp [go_sem, *]); (first | (with_reducible (have zz := newPairR hb); obtain ⟨z0, z1, y0', y1', y2', y3'⟩ := zz) | (with_reducible (have zz := newPairRD hb); obtain ⟨z0, z1, y0', y1', y2', y3'⟩ := zz) | (with_reducible (have zz := newPairRI hb); obtain ⟨z0, z1, y0', y1', y2', y3'⟩ := zz) | (have v0 := kc ⟨W1.heap.size, 0, none⟩ (.int .i64 0) hb (by assumption); have v1 := kc ⟨W1.heap.size, 1, none⟩ (.int .i64 0) hb (by assumption); have v2 := kf ⟨W1.heap.size, 0, none⟩ (.int .i64 0) hb (by assumption) (by assumption); have v3 := kf ⟨W1.heap.size, 1, none⟩ (.int .i64 0) hb (by assumption) (by assumption)) | skip); have hX := beyond (w := w) (by first | assumption | exact Below.drew (by assumption) | exact Below.alloc (by assumption) (Below.size (by assumption)) _ | exact Below.alloc (Below.drew (by assumption)) (Below.size (by assumption)) _ | exact Below.drew (Below.alloc (by assumption) (Below.size (by assumption)) _)) hb; have l5 : w.heap.size < w'.heap.size := World.block_lt_of_cell? _ _ s0; have l6 : bf < w'.heap.size := World.block_lt_of_cell? _ _ s2; have l2 : ¬ w'.heap.size = w.heap.size := (by omega); have l3 : ¬ w'.heap.size = bf := (by omega); have l4 : ¬ w.heap.size = w'.heap.size := (by omega); have l7 : ¬ bf = w'.heap.size := (by omega)))
    all_goals go_wp2_with fail
    all_goals go_meet
    all_goals refine ⟨_, rfl, rfl, ?_, ?_, ?_, ?_, ?_, ?_, ?_⟩
    all_goals first | assumption | (simp [go_sem]; done) | (simp [go_sem, *]; done) | exact Below.alloc (by assumption) (Below.size (by assumption)) _ | exact set2 (by assumption) (Nat.le_of_lt (by assumption)) _ _ | skip
  case rest =>
    obtain ⟨bk, rfl, rfl, e0, e1, e2, e3, e4, e5, hB⟩ := hcut
    clear HA HFr k1 k2 k3 k4 k5 k6 d0 d1 d2 d3 hW
    go_wp2_with fail
    refine (HFl.out _).mono ?_
    rintro e w3 ⟨rfl, hb⟩
    have f3_0 := kc ⟨bk, 0, none⟩ (.int .i64 n) hb e0
    have f3_1 := kc ⟨bk, 1, none⟩ (.int .i64 d) hb e1
    have f3_2 := kc ⟨w.heap.size, 0, none⟩ (.int .i64 n) hb e2
    have f3_3 := kc ⟨w.heap.size, 1, none⟩ (.int .i64 d) hb e3
    have f3_4 := kc ⟨bf, 0, none⟩ (.int .i64 0) hb e4
    have f3_5 := kc ⟨bf, 1, none⟩ (.int .i64 d) hb e5
    have hB3 : Below w.heap.size w w3 := beyond (hB) hb
    clear hb e0 e1 e2 e3 e4 e5
    go_wp2_with fail
    refine (live_any _ (pow_later ht (hB3))).mono ?_
    rintro e w4 ⟨rfl, hb⟩
    have f4_0 := kc ⟨bk, 0, none⟩ (.int .i64 n) hb f3_0
    have f4_1 := kc ⟨bk, 1, none⟩ (.int .i64 d) hb f3_1
    have f4_2 := kc ⟨w.heap.size, 0, none⟩ (.int .i64 n) hb f3_2
    have f4_3 := kc ⟨w.heap.size, 1, none⟩ (.int .i64 d) hb f3_3
    have f4_4 := kc ⟨bf, 0, none⟩ (.int .i64 0) hb f3_4
    have f4_5 := kc ⟨bf, 1, none⟩ (.int .i64 d) hb f3_5
    have hB4 : Below w.heap.size w w4 := beyond (hB3) hb
    clear hb f3_0 f3_1 f3_2 f3_3 f3_4 f3_5 hB3
    go_wp2_with fail
    refine (HC.out _).mono ?_
    rintro e w5 ⟨rfl, hb⟩
    have f5_0 := kc ⟨bk, 0, none⟩ (.int .i64 n) hb f4_0
    have f5_1 := kc ⟨bk, 1, none⟩ (.int .i64 d) hb f4_1
    have f5_2 := kc ⟨w.heap.size, 0, none⟩ (.int .i64 n) hb f4_2
    have f5_3 := kc ⟨w.heap.size, 1, none⟩ (.int .i64 d) hb f4_3
    have f5_4 := kc ⟨bf, 0, none⟩ (.int .i64 0) hb f4_4
    have f5_5 := kc ⟨bf, 1, none⟩ (.int .i64 d) hb f4_5
    have hB5 : Below w.heap.size w w5 := beyond (hB4) hb
    clear hb f4_0 f4_1 f4_2 f4_3 f4_4 f4_5 hB4
    go_wp2_with fail
    go_ret
    exact ⟨rfl, hB5⟩
set_option maxRecDepth 100000 in
set_option maxHeartbeats 8000000 in
theorem parts_some (n d q y z : Int) (w : World) (ht : Pow w) (hy : ¬ y = 0) (hz : IntKind.i64.wrap (q + 1) = z) (hq : wrap64 (q + 1) = z) (y0 : 0 ≤ y) (y1 : y < d) (HR : Hid (AskR n d true))
    (HFr : Hid (∀ w, Calls Tryd.prog 25 #[rv n d] w fun e w' => e = .returned (rv y d) ∧ Below w.heap.size w w'))
    (HFl : Hid (∀ w, Calls Tryd.prog 26 #[rv n d] w fun e w' => e = .returned (.int .i64 q) ∧ Below w.heap.size w w'))
    (HA : Hid (CallsT 15 q 1 y d (n, d, 0)))
    (HC : Hid (∀ w, Calls Tryd.prog 27 #[rv n d] w fun e w' => e = .returned (.int .i64 z) ∧ Below w.heap.size w w')) :
    Calls Tryd.prog 7 #[rv n d] w fun e w' => e = .returned (.bool true) ∧ Below w.heap.size w w' := by
  go_enter Tryd.func7, Tryd.ntmps7
  go_wp2_with fail
  refine (HR.out _).mono ?_
  rintro e w1 ⟨rfl, hb⟩
  have f1_0 := kc ⟨w.heap.size, 0, none⟩ (.int .i64 n) hb (by first | assumption | simp [go_sem, *])
  have f1_1 := kc ⟨w.heap.size, 1, none⟩ (.int .i64 d) hb (by first | assumption | simp [go_sem, *])
  have hB1 : Below w.heap.size w w1 := beyond (single w _) hb
  clear hb
  go_wp2_with fail
  refine (HFr.out _).mono ?_
  rintro e w2 ⟨rfl, hb⟩
  have f2_0 := kc ⟨w.heap.size, 0, none⟩ (.int .i64 n) hb f1_0
  have f2_1 := kc ⟨w.heap.size, 1, none⟩ (.int .i64 d) hb f1_1
  have hB2 : Below w.heap.size w w2 := beyond (hB1) hb
  clear hb f1_0 f1_1 hB1
  have r2_0 : ∀ O, (w2.alloc O).cell? ⟨w.heap.size, 0, none⟩ = some (.int .i64 n) := fun O => kc _ _ (single _ _) f2_0
  have r2_1 : ∀ O, (w2.alloc O).cell? ⟨w.heap.size, 1, none⟩ = some (.int .i64 d) := fun O => kc _ _ (single _ _) f2_1
  have rB2 : ∀ O, Below w.heap.size w (w2.alloc O) := fun O => beyond hB2 (single _ _)
  go_wp2_with fail
  have hW := rB2 (.cells #[.int .i64 y, .int .i64 d] 23)
  have d0 := r2_0 (.cells #[.int .i64 y, .int .i64 d] 23)
  have d1 := r2_1 (.cells #[.int .i64 y, .int .i64 d] 23)
  have d2 : (w2.alloc (.cells #[.int .i64 y, .int .i64 d] 23)).cell? ⟨w2.heap.size, 0, none⟩ = some (.int .i64 y) := new_cell w2 _ _ 0
  have d3 : (w2.alloc (.cells #[.int .i64 y, .int .i64 d] 23)).cell? ⟨w2.heap.size, 1, none⟩ = some (.int .i64 d) := new_cell w2 _ _ 1
  clear r2_0 r2_1 rB2 f2_0 f2_1 hB2
  generalize (w2.alloc (.cells #[.int .i64 y, .int .i64 d] 23)) = W1 at *
  generalize w2.heap.size = bf at *
  have k1 : w.heap.size < W1.heap.size := World.block_lt_of_cell? _ _ d0
  have k2 : bf < W1.heap.size := World.block_lt_of_cell? _ _ d2
  have k3 : ¬ W1.heap.size = w.heap.size := by omega
  have k4 : ¬ W1.heap.size = bf := by omega
  have k5 : ¬ w.heap.size = W1.heap.size := by omega
  have k6 : ¬ bf = W1.heap.size := by omega
  go_cut [4, 5] (fun s t w' => ∃ bk : Nat, s = .pointer (some ⟨bk, 0, none⟩) ∧ t = .int .i64 0 ∧ w'.cell? ⟨bk, 0, none⟩ = some (.int .i64 n) ∧ w'.cell? ⟨bk, 1, none⟩ = some (.int .i64 d) ∧ w'.cell? ⟨w.heap.size, 0, none⟩ = some (.int .i64 n) ∧ w'.cell? ⟨w.heap.size, 1, none⟩ = some (.int .i64 d) ∧ w'.cell? ⟨bf, 0, none⟩ = some (.int .i64 y) ∧ w'.cell? ⟨bf, 1, none⟩ = some (.int .i64 d) ∧ Below w.heap.size w w')
  case first =>
    go_region_held3 (fun w' => w'.cell? ⟨w.heap.size, 0, none⟩ = some (.int .i64 n) ∧ w'.cell? ⟨w.heap.size, 1, none⟩ = some (.int .i64 d) ∧ w'.cell? ⟨bf, 0, none⟩ = some (.int .i64 y) ∧ w'.cell? ⟨bf, 1, none⟩ = some (.int .i64 d))
      (first | exact ⟨by assumption, by assumption, by assumption, by assumption⟩ | go_keep)
      (first
        | (go_at_call 26; refine (HFl.out _).mono ?_; rintro e w' ⟨rfl, hb⟩; have s0 := kc ⟨w.heap.size, 0, none⟩ (.int .i64 n) hb (by first | assumption | simp [go_sem, *]); have s1 := kc ⟨w.heap.size, 1, none⟩ (.int .i64 d) hb (by first | assumption | simp [go_sem, *]); have s2 := kc ⟨bf, 0, none⟩ (.int .i64 y) hb (by first | assumption | simp [go_sem, *]); have s3 := kc ⟨bf, 1, none⟩ (.int .i64 d) hb (by first | assumption | simp [go_sem, *]); (first | (with_reducible (have zz := newPairR hb); obtain ⟨z0, z1, y0', y1', y2', y3'⟩ := zz) | (with_reducible (have zz := newPairRD hb); obtain ⟨z0, z1, y0', y1', y2', y3'⟩ := zz) | (with_reducible (have zz := newPairRI hb); obtain ⟨z0, z1, y0', y1', y2', y3'⟩ := zz) | (have v0 := kc ⟨W1.heap.size, 0, none⟩ (.int .i64 0) hb (by assumption); have v1 := kc ⟨W1.heap.size, 1, none⟩ (.int .i64 0) hb (by assumption); have v2 := kf ⟨W1.heap.size, 0, none⟩ (.int .i64 0) hb (by assumption) (by assumption); have v3 := kf ⟨W1.heap.size, 1, none⟩ (.int .i64 0) hb (by assumption) (by assumption)) | skip); have hX := beyond (w := w) (by first | assumption | exact Below.drew (by assumption) | exact Below.alloc (by assumption) (Below.size (by assumption)) _ | exact Below.alloc (Below.drew (by assumption)) (Below.size (by assumption)) _ | exact Below.drew (Below.alloc (by assumption) (Below.size (by assumption)) _)) hb; have l5 : w.heap.size < w'.heap.size := World.block_lt_of_cell? _ _ s0; have l6 : bf < w'.heap.size := World.block_lt_of_cell? _ _ s2; have l2 : ¬ w'.heap.size = w.heap.size := (by omega); have l3 : ¬ w'.heap.size = bf := (by omega); have l4 : ¬ w.heap.size = w'.heap.size := (by omega); have l7 : ¬ bf = w'.heap.size := (by omega))
        | (go_at_call 15; refine (HA.out _).mono ?_; rintro e w' ⟨rfl, hb⟩; have s0 := kc ⟨w.heap.size, 0, none⟩ (.int .i64 n) hb (by first | assumption | simp [go_sem, *]); have s1 := kc ⟨w.heap.size, 1, none⟩ (.int .i64 d) hb (by first | assumption | simp [go_sem, *]); have s2 := kc ⟨bf, 0, none⟩ (.int .i64 y) hb (by first | assumption | simp [go_sem, *]); have s3 := kc ⟨bf, 1, none⟩ (.int .i64 d) hb (by first | assumption | simp [go_sem, *]); (first | (with_reducible (have zz := newPairR hb); obtain ⟨z0, z1, y0', y1', y2', y3'⟩ := zz) | (with_reducible (have zz := newPairRD hb); obtain ⟨z0, z1, y0', y1', y2', y3'⟩ := zz) | (with_reducible (have zz := newPairRI hb); obtain ⟨z0, z1, y0', y1', y2', y3'⟩ := zz) | (have v0 := kc ⟨W1.heap.size, 0, none⟩ (.int .i64 0) hb (by assumption); have v1 := kc ⟨W1.heap.size, 1, none⟩ (.int .i64 0) hb (by assumption); have v2 := kf ⟨W1.heap.size, 0, none⟩ (.int .i64 0) hb (by assumption) (by assumption); have v3 := kf ⟨W1.heap.size, 1, none⟩ (.int .i64 0) hb (by assumption) (by assumption)) | skip); have hX := beyond (w := w) (by first | assumption | exact Below.drew (by assumption) | exact Below.alloc (by assumption) (Below.size (by assumption)) _ | exact Below.alloc (Below.drew (by assumption)) (Below.size (by assumption)) _ | exact Below.drew (Below.alloc (by assumption) (Below.size (by assumption)) _)) hb; have l5 : w.heap.size < w'.heap.size := World.block_lt_of_cell? _ _ s0; have l6 : bf < w'.heap.size := World.block_lt_of_cell? _ _ s2; have l2 : ¬ w'.heap.size = w.heap.size := (by omega); have l3 : ¬ w'.heap.size = bf := (by omega); have l4 : ¬ w.heap.size = w'.heap.size := (by omega); have l7 : ¬ bf = w'.heap.size := (by omega)))
    all_goals go_wp2_with fail
    all_goals go_meet
    all_goals refine ⟨_, rfl, rfl, ?_, ?_, ?_, ?_, ?_, ?_, ?_⟩
    all_goals first | assumption | (simp [go_sem]; done) | (simp [go_sem, *]; done) | exact Below.alloc (by assumption) (Below.size (by assumption)) _ | exact set2 (by assumption) (Nat.le_of_lt (by assumption)) _ _ | skip
  case rest =>
    obtain ⟨bk, rfl, rfl, e0, e1, e2, e3, e4, e5, hB⟩ := hcut
    clear HA HFr k1 k2 k3 k4 k5 k6 d0 d1 d2 d3 hW
    go_wp2_with fail
    refine (HFl.out _).mono ?_
    rintro e w3 ⟨rfl, hb⟩
    have f3_0 := kc ⟨bk, 0, none⟩ (.int .i64 n) hb e0
    have f3_1 := kc ⟨bk, 1, none⟩ (.int .i64 d) hb e1
    have f3_2 := kc ⟨w.heap.size, 0, none⟩ (.int .i64 n) hb e2
    have f3_3 := kc ⟨w.heap.size, 1, none⟩ (.int .i64 d) hb e3
    have f3_4 := kc ⟨bf, 0, none⟩ (.int .i64 y) hb e4
    have f3_5 := kc ⟨bf, 1, none⟩ (.int .i64 d) hb e5
    have hB3 : Below w.heap.size w w3 := beyond (hB) hb
    clear hb e0 e1 e2 e3 e4 e5
    go_wp2_with fail
    refine (live_any _ (pow_later ht (hB3))).mono ?_
    rintro e w4 ⟨rfl, hb⟩
    have f4_0 := kc ⟨bk, 0, none⟩ (.int .i64 n) hb f3_0
    have f4_1 := kc ⟨bk, 1, none⟩ (.int .i64 d) hb f3_1
    have f4_2 := kc ⟨w.heap.size, 0, none⟩ (.int .i64 n) hb f3_2
    have f4_3 := kc ⟨w.heap.size, 1, none⟩ (.int .i64 d) hb f3_3
    have f4_4 := kc ⟨bf, 0, none⟩ (.int .i64 y) hb f3_4
    have f4_5 := kc ⟨bf, 1, none⟩ (.int .i64 d) hb f3_5
    have hB4 : Below w.heap.size w w4 := beyond (hB3) hb
    clear hb f3_0 f3_1 f3_2 f3_3 f3_4 f3_5 hB3
    go_wp2_with fail
    refine (HC.out _).mono ?_
    rintro e w5 ⟨rfl, hb⟩
    have f5_0 := kc ⟨bk, 0, none⟩ (.int .i64 n) hb f4_0
    have f5_1 := kc ⟨bk, 1, none⟩ (.int .i64 d) hb f4_1
    have f5_2 := kc ⟨w.heap.size, 0, none⟩ (.int .i64 n) hb f4_2
    have f5_3 := kc ⟨w.heap.size, 1, none⟩ (.int .i64 d) hb f4_3
    have f5_4 := kc ⟨bf, 0, none⟩ (.int .i64 y) hb f4_4
    have f5_5 := kc ⟨bf, 1, none⟩ (.int .i64 d) hb f4_5
    have hB5 : Below w.heap.size w w5 := beyond (hB4) hb
    clear hb f4_0 f4_1 f4_2 f4_3 f4_4 f4_5 hB4
    go_wp2_with fail
    go_ret
    exact ⟨rfl, hB5⟩
theorem ratParts.walk (n : Int) (hn : (Lit.int .i64 n).wf = true) (d : Int) (hd : (Lit.int .i64 d).wf = true) (w : World) (ht : Pow w) :
    Calls Tryd.prog 7 #[rv n d] w fun e w' => e = .returned (.bool true) ∧ Below w.heap.size w w' := by
  have ha := i64_wf hn
  have hb := i64_wf hd
  cases r : rightR n d
  · refine parts_not n d w ht ?_ ?_
    · have := askR n d ha hb
      rw [r] at this
      exact this
    · show ∀ w, _
      intro w
      have := xright_any n d w ha hb
      rw [r] at this
      exact this
  · obtain ⟨d0, co⟩ := right_iff.1 r
    have kr := ask_at n d ha hb r
    have kd := askD n d ha d0 hb.2
    have q := quo_i64 n d ha d0
    have e := Int.mul_ediv_add_emod n d
    have y0 := Int.emod_nonneg n (show d ≠ 0 by omega)
    have y1 := Int.emod_lt_of_pos n d0
    have rq : rightR (n / d) 1 = true := right_iff.2 ⟨by decide, (co_all (sz_nn _) (by decide)).2 fun k k0 _ h => Int.eq_one_of_dvd_one k0 h⟩
    have ry : rightR (n % d) d = true := right_iff.2 ⟨d0, by
      rw [sz_pos y0]
      refine (co_all y0 (Int.le_of_lt d0)).2 fun k k0 h1 h2 => ?_
      refine (co_all (sz_nn n) (Int.le_of_lt d0)).1 co k k0 ?_ h2
      have : k ∣ n := by rw [← e]; exact Int.dvd_add (Int.dvd_mul_of_dvd_left h2) h1
      unfold sz
      split
      · exact Int.dvd_neg.2 this
      · exact this⟩
    have ad : CallsT 15 (n / d) 1 (n % d) d (n, d, 0) := fun w => by
      have h := radd_any (n / d) 1 (n % d) d w q (by decide) ⟨by omega, by have := hb.2; omega⟩ hb
      have t : addT (n / d) 1 (n % d) d = (n, d, 0) := by
        unfold addT
        rw [rq, ry]
        refine can_right (by omega) r ha.1 ha.2 hb.2 ?_
        rw [Int.one_mul, Int.mul_one, Int.mul_comm (n / d) d, e]
      rw [t] at h
      exact h
    by_cases z : n % d = 0
    · rw [z] at kd ad
      refine parts_zero n d (n / d) w ht d0 kr (fun w => frac_yes n d _ _ w kr kd) (fun w => floor_yes n d _ _ w kr kd) ad (fun w => ceil_yes n d _ _ _ w kr kd ?_)
      show if (0 : Int) < 0 then _ else _
      rw [if_neg (by decide)]
    · have d2 : 2 ≤ d := by omega
      have wq : wrap64 (n / d + 1) = n / d + 1 := by
        have h0 := ha.1
        have h1 := ha.2
        have := q.1
        unfold wrap64
        by_cases c : n / d ≤ 0
        · omega
        · have : 2 * (n / d) ≤ d * (n / d) := Int.mul_le_mul_of_nonneg_right d2 (by omega)
          omega
      have wk : IntKind.i64.wrap (n / d + 1) = n / d + 1 := by
        have h : wrap64 (n / d + 1) = n / d + 1 := wq
        rw [IntKind.wrap_i64]
        unfold wrap64 at h
        exact h
      refine parts_some n d (n / d) (n % d) (n / d + 1) w ht z wk wq y0 y1 kr (fun w => frac_yes n d _ _ w kr kd) (fun w => floor_yes n d _ _ w kr kd) ad (fun w => ceil_yes n d _ _ _ w kr kd ?_)
      show if 0 < n % d then _ else _
      rw [if_pos (by omega)]
      exact wk
end Go.Proofs.YthklhiicnggonaaDoor
