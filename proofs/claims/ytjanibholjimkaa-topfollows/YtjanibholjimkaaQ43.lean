/-
  The contract of rat.Compare.
-/
import Derived.Test.YtjanibholjimkaaQ42
namespace Go.Proofs.Ytjanibholjimkaa
open Go.RowKit Go.Shelf
set_option linter.unusedVariables false
theorem newOne {Y w' : World} {T : TypeId} (hb : Below (Y.alloc (.cells #[.int .u64 0, .int .u64 0, .bool false] T)).heap.size (Y.alloc (.cells #[.int .u64 0, .int .u64 0, .bool false] T)) w') :
    w'.cell? ⟨Y.heap.size, 0, none⟩ = some (.int .u64 0) ∧ w'.cell? ⟨Y.heap.size, 1, none⟩ = some (.int .u64 0) ∧ w'.cell? ⟨Y.heap.size, 2, none⟩ = some (.bool false) ∧
    w'.frozen? ⟨Y.heap.size, 0, none⟩ = false ∧ w'.frozen? ⟨Y.heap.size, 1, none⟩ = false ∧ w'.frozen? ⟨Y.heap.size, 2, none⟩ = false ∧
    (∀ O, (w'.alloc O).cell? ⟨Y.heap.size, 0, none⟩ = some (.int .u64 0)) ∧ (∀ O, (w'.alloc O).cell? ⟨Y.heap.size, 1, none⟩ = some (.int .u64 0)) ∧ (∀ O, (w'.alloc O).cell? ⟨Y.heap.size, 2, none⟩ = some (.bool false)) ∧
    (∀ O, (w'.alloc O).frozen? ⟨Y.heap.size, 0, none⟩ = false) ∧ (∀ O, (w'.alloc O).frozen? ⟨Y.heap.size, 1, none⟩ = false) ∧ (∀ O, (w'.alloc O).frozen? ⟨Y.heap.size, 2, none⟩ = false) ∧
    Y.heap.size < w'.heap.size ∧ Y.heap.size ≠ w'.heap.size ∧ w'.heap.size ≠ Y.heap.size := by
  have c0 := kc ⟨Y.heap.size, 0, none⟩ (.int .u64 0) hb (by simp [go_sem])
  have c1 := kc ⟨Y.heap.size, 1, none⟩ (.int .u64 0) hb (by simp [go_sem])
  have c2 := kc ⟨Y.heap.size, 2, none⟩ (.bool false) hb (by simp [go_sem])
  have f0 := kf ⟨Y.heap.size, 0, none⟩ (.int .u64 0) hb (by simp [go_sem]) (by simp [go_sem])
  have f1 := kf ⟨Y.heap.size, 1, none⟩ (.int .u64 0) hb (by simp [go_sem]) (by simp [go_sem])
  have f2 := kf ⟨Y.heap.size, 2, none⟩ (.bool false) hb (by simp [go_sem]) (by simp [go_sem])
  have l := World.block_lt_of_cell? _ _ c0
  exact ⟨c0, c1, c2, f0, f1, f2, fun O => kc _ _ (single _ _) c0, fun O => kc _ _ (single _ _) c1, fun O => kc _ _ (single _ _) c2, fun O => kf _ _ (single _ _) c0 f0, fun O => kf _ _ (single _ _) c1 f1, fun O => kf _ _ (single _ _) c2 f2, l, Nat.ne_of_lt l, Ne.symm (Nat.ne_of_lt l)⟩
theorem newTwo {Y w' : World} {T : TypeId} {o : Obj} (hb : Below ((Y.alloc o).alloc (.cells #[.int .u64 0, .int .u64 0, .bool false] T)).heap.size ((Y.alloc o).alloc (.cells #[.int .u64 0, .int .u64 0, .bool false] T)) w') :
    w'.cell? ⟨Y.heap.size + 1, 0, none⟩ = some (.int .u64 0) ∧ w'.cell? ⟨Y.heap.size + 1, 1, none⟩ = some (.int .u64 0) ∧ w'.cell? ⟨Y.heap.size + 1, 2, none⟩ = some (.bool false) ∧
    w'.frozen? ⟨Y.heap.size + 1, 0, none⟩ = false ∧ w'.frozen? ⟨Y.heap.size + 1, 1, none⟩ = false ∧ w'.frozen? ⟨Y.heap.size + 1, 2, none⟩ = false ∧
    (∀ O, (w'.alloc O).cell? ⟨Y.heap.size + 1, 0, none⟩ = some (.int .u64 0)) ∧ (∀ O, (w'.alloc O).cell? ⟨Y.heap.size + 1, 1, none⟩ = some (.int .u64 0)) ∧ (∀ O, (w'.alloc O).cell? ⟨Y.heap.size + 1, 2, none⟩ = some (.bool false)) ∧
    (∀ O, (w'.alloc O).frozen? ⟨Y.heap.size + 1, 0, none⟩ = false) ∧ (∀ O, (w'.alloc O).frozen? ⟨Y.heap.size + 1, 1, none⟩ = false) ∧ (∀ O, (w'.alloc O).frozen? ⟨Y.heap.size + 1, 2, none⟩ = false) ∧
    Y.heap.size + 1 < w'.heap.size ∧ Y.heap.size + 1 ≠ w'.heap.size ∧ w'.heap.size ≠ Y.heap.size + 1 := by
  have h := newOne hb
  rw [World.size_alloc] at h
  exact h
theorem newTwo2 {Y w' : World} {T T' : TypeId} (hb : Below ((Y.alloc (.cells #[.int .u64 0, .int .u64 0, .bool false] T)).alloc (.cells #[.int .u64 0, .int .u64 0, .bool false] T')).heap.size ((Y.alloc (.cells #[.int .u64 0, .int .u64 0, .bool false] T)).alloc (.cells #[.int .u64 0, .int .u64 0, .bool false] T')) w') :
    w'.cell? ⟨Y.heap.size, 0, none⟩ = some (.int .u64 0) ∧ w'.cell? ⟨Y.heap.size, 1, none⟩ = some (.int .u64 0) ∧ w'.cell? ⟨Y.heap.size, 2, none⟩ = some (.bool false) ∧
    w'.frozen? ⟨Y.heap.size, 0, none⟩ = false ∧ w'.frozen? ⟨Y.heap.size, 1, none⟩ = false ∧ w'.frozen? ⟨Y.heap.size, 2, none⟩ = false ∧
    (∀ O, (w'.alloc O).cell? ⟨Y.heap.size, 0, none⟩ = some (.int .u64 0)) ∧ (∀ O, (w'.alloc O).cell? ⟨Y.heap.size, 1, none⟩ = some (.int .u64 0)) ∧ (∀ O, (w'.alloc O).cell? ⟨Y.heap.size, 2, none⟩ = some (.bool false)) ∧
    (∀ O, (w'.alloc O).frozen? ⟨Y.heap.size, 0, none⟩ = false) ∧ (∀ O, (w'.alloc O).frozen? ⟨Y.heap.size, 1, none⟩ = false) ∧ (∀ O, (w'.alloc O).frozen? ⟨Y.heap.size, 2, none⟩ = false) ∧
    Y.heap.size < w'.heap.size ∧ Y.heap.size ≠ w'.heap.size ∧ w'.heap.size ≠ Y.heap.size := newOne (beyond (single _ _) hb)
theorem al3 {X w' : World} (h : Below X.heap.size X w') {b o1 o2 o3 : Nat} (hb : X.heap.size ≤ b) (u1 u2 u3 : Value) (o : Obj) : Below X.heap.size X ((((w'.setCell ⟨b, o1, none⟩ u1).setCell ⟨b, o2, none⟩ u2).setCell ⟨b, o3, none⟩ u3).alloc o) := (set3 h hb u1 u2 u3).alloc (set3 h hb u1 u2 u3).size o
theorem le2 {X w' : World} {o : Obj} (h : Below X.heap.size X w') : X.heap.size ≤ (w'.alloc o).heap.size := by
  rw [World.size_alloc]
  exact Nat.le_succ_of_le h.size
theorem carry {W w' : World} {b : Nat} (hb : Below W.heap.size W w') (c0 : W.cell? ⟨b, 0, none⟩ = some (.int .u64 0)) (c1 : W.cell? ⟨b, 1, none⟩ = some (.int .u64 0)) (c2 : W.cell? ⟨b, 2, none⟩ = some (.bool false)) (f0 : W.frozen? ⟨b, 0, none⟩ = false) (f1 : W.frozen? ⟨b, 1, none⟩ = false) (f2 : W.frozen? ⟨b, 2, none⟩ = false) :
    w'.cell? ⟨b, 0, none⟩ = some (.int .u64 0) ∧ w'.cell? ⟨b, 1, none⟩ = some (.int .u64 0) ∧ w'.cell? ⟨b, 2, none⟩ = some (.bool false) ∧
    w'.frozen? ⟨b, 0, none⟩ = false ∧ w'.frozen? ⟨b, 1, none⟩ = false ∧ w'.frozen? ⟨b, 2, none⟩ = false ∧
    (∀ O, (w'.alloc O).cell? ⟨b, 0, none⟩ = some (.int .u64 0)) ∧ (∀ O, (w'.alloc O).cell? ⟨b, 1, none⟩ = some (.int .u64 0)) ∧ (∀ O, (w'.alloc O).cell? ⟨b, 2, none⟩ = some (.bool false)) ∧
    (∀ O, (w'.alloc O).frozen? ⟨b, 0, none⟩ = false) ∧ (∀ O, (w'.alloc O).frozen? ⟨b, 1, none⟩ = false) ∧ (∀ O, (w'.alloc O).frozen? ⟨b, 2, none⟩ = false) ∧
    b < w'.heap.size ∧ b ≠ w'.heap.size ∧ w'.heap.size ≠ b := by
  have d0 := kc _ _ hb c0
  have d1 := kc _ _ hb c1
  have d2 := kc _ _ hb c2
  have g0 := kf _ _ hb c0 f0
  have g1 := kf _ _ hb c1 f1
  have g2 := kf _ _ hb c2 f2
  have l : b < w'.heap.size := World.block_lt_of_cell? _ _ d0
  exact ⟨d0, d1, d2, g0, g1, g2, fun O => kc _ _ (single _ _) d0, fun O => kc _ _ (single _ _) d1, fun O => kc _ _ (single _ _) d2, fun O => kf _ _ (single _ _) d0 g0, fun O => kf _ _ (single _ _) d1 g1, fun O => kf _ _ (single _ _) d2 g2, l, Nat.ne_of_lt l, Ne.symm (Nat.ne_of_lt l)⟩
theorem undrew {Y w' : World} (hb : Below Y.drew.heap.size Y.drew w') : Below Y.heap.size Y w' := (Below.drew (Below.refl _ _)).trans hb
theorem newOneD {Y w' : World} {T : TypeId} (hb : Below (Y.alloc (.cells #[.int .u64 0, .int .u64 0, .bool false] T)).drew.heap.size (Y.alloc (.cells #[.int .u64 0, .int .u64 0, .bool false] T)).drew w') :
    w'.cell? ⟨Y.heap.size, 0, none⟩ = some (.int .u64 0) ∧ w'.cell? ⟨Y.heap.size, 1, none⟩ = some (.int .u64 0) ∧ w'.cell? ⟨Y.heap.size, 2, none⟩ = some (.bool false) ∧
    w'.frozen? ⟨Y.heap.size, 0, none⟩ = false ∧ w'.frozen? ⟨Y.heap.size, 1, none⟩ = false ∧ w'.frozen? ⟨Y.heap.size, 2, none⟩ = false ∧
    (∀ O, (w'.alloc O).cell? ⟨Y.heap.size, 0, none⟩ = some (.int .u64 0)) ∧ (∀ O, (w'.alloc O).cell? ⟨Y.heap.size, 1, none⟩ = some (.int .u64 0)) ∧ (∀ O, (w'.alloc O).cell? ⟨Y.heap.size, 2, none⟩ = some (.bool false)) ∧
    (∀ O, (w'.alloc O).frozen? ⟨Y.heap.size, 0, none⟩ = false) ∧ (∀ O, (w'.alloc O).frozen? ⟨Y.heap.size, 1, none⟩ = false) ∧ (∀ O, (w'.alloc O).frozen? ⟨Y.heap.size, 2, none⟩ = false) ∧
    Y.heap.size < w'.heap.size ∧ Y.heap.size ≠ w'.heap.size ∧ w'.heap.size ≠ Y.heap.size := newOne (undrew hb)
theorem newTwoD {Y w' : World} {T : TypeId} {o : Obj} (hb : Below ((Y.alloc o).alloc (.cells #[.int .u64 0, .int .u64 0, .bool false] T)).drew.heap.size ((Y.alloc o).alloc (.cells #[.int .u64 0, .int .u64 0, .bool false] T)).drew w') :
    w'.cell? ⟨Y.heap.size + 1, 0, none⟩ = some (.int .u64 0) ∧ w'.cell? ⟨Y.heap.size + 1, 1, none⟩ = some (.int .u64 0) ∧ w'.cell? ⟨Y.heap.size + 1, 2, none⟩ = some (.bool false) ∧
    w'.frozen? ⟨Y.heap.size + 1, 0, none⟩ = false ∧ w'.frozen? ⟨Y.heap.size + 1, 1, none⟩ = false ∧ w'.frozen? ⟨Y.heap.size + 1, 2, none⟩ = false ∧
    (∀ O, (w'.alloc O).cell? ⟨Y.heap.size + 1, 0, none⟩ = some (.int .u64 0)) ∧ (∀ O, (w'.alloc O).cell? ⟨Y.heap.size + 1, 1, none⟩ = some (.int .u64 0)) ∧ (∀ O, (w'.alloc O).cell? ⟨Y.heap.size + 1, 2, none⟩ = some (.bool false)) ∧
    (∀ O, (w'.alloc O).frozen? ⟨Y.heap.size + 1, 0, none⟩ = false) ∧ (∀ O, (w'.alloc O).frozen? ⟨Y.heap.size + 1, 1, none⟩ = false) ∧ (∀ O, (w'.alloc O).frozen? ⟨Y.heap.size + 1, 2, none⟩ = false) ∧
    Y.heap.size + 1 < w'.heap.size ∧ Y.heap.size + 1 ≠ w'.heap.size ∧ w'.heap.size ≠ Y.heap.size + 1 := newTwo (undrew hb)
theorem newTwo2D {Y w' : World} {T T' : TypeId} (hb : Below ((Y.alloc (.cells #[.int .u64 0, .int .u64 0, .bool false] T)).alloc (.cells #[.int .u64 0, .int .u64 0, .bool false] T')).drew.heap.size ((Y.alloc (.cells #[.int .u64 0, .int .u64 0, .bool false] T)).alloc (.cells #[.int .u64 0, .int .u64 0, .bool false] T')).drew w') :
    w'.cell? ⟨Y.heap.size, 0, none⟩ = some (.int .u64 0) ∧ w'.cell? ⟨Y.heap.size, 1, none⟩ = some (.int .u64 0) ∧ w'.cell? ⟨Y.heap.size, 2, none⟩ = some (.bool false) ∧
    w'.frozen? ⟨Y.heap.size, 0, none⟩ = false ∧ w'.frozen? ⟨Y.heap.size, 1, none⟩ = false ∧ w'.frozen? ⟨Y.heap.size, 2, none⟩ = false ∧
    (∀ O, (w'.alloc O).cell? ⟨Y.heap.size, 0, none⟩ = some (.int .u64 0)) ∧ (∀ O, (w'.alloc O).cell? ⟨Y.heap.size, 1, none⟩ = some (.int .u64 0)) ∧ (∀ O, (w'.alloc O).cell? ⟨Y.heap.size, 2, none⟩ = some (.bool false)) ∧
    (∀ O, (w'.alloc O).frozen? ⟨Y.heap.size, 0, none⟩ = false) ∧ (∀ O, (w'.alloc O).frozen? ⟨Y.heap.size, 1, none⟩ = false) ∧ (∀ O, (w'.alloc O).frozen? ⟨Y.heap.size, 2, none⟩ = false) ∧
    Y.heap.size < w'.heap.size ∧ Y.heap.size ≠ w'.heap.size ∧ w'.heap.size ≠ Y.heap.size := newTwo2 (undrew hb)
set_option maxRecDepth 100000 in
set_option maxHeartbeats 32000000 in
theorem compare_yes (an ad bn bd p1 q1 p2 q2 x1 x2 y1 y2 z1 z2 r : Int) (g1 g2 g3 : Bool) (w : World) (HR : Hid (AskR an ad true)) (HR2 : Hid (AskR bn bd true))
    (HTa : Hid (∀ w, Calls Try.prog 25 #[rv an ad] w fun e w' => e = .returned (tv p1 q1 g1) ∧ Below w.heap.size w w'))
    (HTb : Hid (∀ w, Calls Try.prog 25 #[rv bn bd] w fun e w' => e = .returned (tv p2 q2 g2) ∧ Below w.heap.size w w'))
    (HX : Hid (∀ w, Calls Try.prog 43 #[tv p1 q1 g1, .int .u64 q2] w fun e w' => e = .returned (.agg #[.int .u64 x1, .int .u64 x2, .bool g1]) ∧ Below w.heap.size w w'))
    (HO : Hid (∀ w, Calls Try.prog 32 #[tv p2 q2 g2] w fun e w' => e = .returned (tv p2 q2 (!g2)) ∧ Below w.heap.size w w'))
    (HY : Hid (∀ w, Calls Try.prog 43 #[tv p2 q2 (!g2), .int .u64 q1] w fun e w' => e = .returned (.agg #[.int .u64 y1, .int .u64 y2, .bool (!g2)]) ∧ Below w.heap.size w w'))
    (HA : Hid (∀ w, Calls Try.prog 44 #[.agg #[.int .u64 x1, .int .u64 x2, .bool g1], .agg #[.int .u64 y1, .int .u64 y2, .bool (!g2)]] w fun e w' => e = .returned (.agg #[.int .u64 z1, .int .u64 z2, .bool g3]) ∧ Below w.heap.size w w'))
    (HG : Hid (∀ w, Calls Try.prog 53 #[.agg #[.int .u64 z1, .int .u64 z2, .bool g3]] w fun e w' => e = .returned (.int .i64 r) ∧ Below w.heap.size w w')) :
    Calls Try.prog 33 #[rv an ad, rv bn bd] w fun e w' => e = .returned (.int .i64 r) ∧ Below w.heap.size w w' := by
  go_enter Try.func33, Try.ntmps33
  go_wp2_with fail
  refine (HR.out _).mono ?_
  rintro e w1 ⟨rfl, hb⟩
  have s0 := kc ⟨w.heap.size, 0, none⟩ (.int .i64 an) hb (by first | assumption | simp [go_sem, *])
  have s1 := kc ⟨w.heap.size, 1, none⟩ (.int .i64 ad) hb (by first | assumption | simp [go_sem, *])
  have s2 := kc ⟨w.heap.size + 1, 0, none⟩ (.int .i64 bn) hb (by first | assumption | simp [go_sem, *])
  have s3 := kc ⟨w.heap.size + 1, 1, none⟩ (.int .i64 bd) hb (by first | assumption | simp [go_sem, *])
  have hB := beyond (two w _ _) hb
  clear hb
  go_wp2_with fail
  refine (HR2.out _).mono ?_
  rintro e w2 ⟨rfl, hb2⟩
  have u0 := kc ⟨w.heap.size, 0, none⟩ (.int .i64 an) hb2 (by first | assumption | simp [go_sem, *])
  have u1 := kc ⟨w.heap.size, 1, none⟩ (.int .i64 ad) hb2 (by first | assumption | simp [go_sem, *])
  have u2 := kc ⟨w.heap.size + 1, 0, none⟩ (.int .i64 bn) hb2 (by first | assumption | simp [go_sem, *])
  have u3 := kc ⟨w.heap.size + 1, 1, none⟩ (.int .i64 bd) hb2 (by first | assumption | simp [go_sem, *])
  have hB2 := beyond hB hb2
  clear hb2 hB s0 s1 s2 s3
  have k0 : w.heap.size < w2.heap.size := World.block_lt_of_cell? _ _ u0
  have k1 : w.heap.size + 1 < w2.heap.size := World.block_lt_of_cell? _ _ u2
  have rc : ∀ (w' : World), Below w2.heap.size w2 w' → ∀ b o, b < w2.heap.size → w'.cell? ⟨b, o, none⟩ = w2.cell? ⟨b, o, none⟩ := fun w' h => (bcell h).1
  have HB2 := hideR hB2
  clear hB2
  have nc0 : ∀ k, ((w2.drewN k).alloc (.cells #[.int .u64 0, .int .u64 0, .bool false] 59)).cell? ⟨w2.heap.size, 0, none⟩ = some (.int .u64 0) := fun k => new_cell (w2.drewN k) #[.int .u64 0, .int .u64 0, .bool false] _ 0
  have nf0 : ∀ k, ((w2.drewN k).alloc (.cells #[.int .u64 0, .int .u64 0, .bool false] 59)).frozen? ⟨w2.heap.size, 0, none⟩ = false := fun k => new_frozen (w2.drewN k) #[.int .u64 0, .int .u64 0, .bool false] _ 0
  have nc1 : ∀ k, ((w2.drewN k).alloc (.cells #[.int .u64 0, .int .u64 0, .bool false] 59)).cell? ⟨w2.heap.size, 1, none⟩ = some (.int .u64 0) := fun k => new_cell (w2.drewN k) #[.int .u64 0, .int .u64 0, .bool false] _ 1
  have nf1 : ∀ k, ((w2.drewN k).alloc (.cells #[.int .u64 0, .int .u64 0, .bool false] 59)).frozen? ⟨w2.heap.size, 1, none⟩ = false := fun k => new_frozen (w2.drewN k) #[.int .u64 0, .int .u64 0, .bool false] _ 1
  have nc2 : ∀ k, ((w2.drewN k).alloc (.cells #[.int .u64 0, .int .u64 0, .bool false] 59)).cell? ⟨w2.heap.size, 2, none⟩ = some (.bool false) := fun k => new_cell (w2.drewN k) #[.int .u64 0, .int .u64 0, .bool false] _ 2
  have nf2 : ∀ k, ((w2.drewN k).alloc (.cells #[.int .u64 0, .int .u64 0, .bool false] 59)).frozen? ⟨w2.heap.size, 2, none⟩ = false := fun k => new_frozen (w2.drewN k) #[.int .u64 0, .int .u64 0, .bool false] _ 2
  go_upto_region 3 with (fail)
  go_cut [5, 6] (fun s t w' => ∃ bx bz : Nat, s = .pointer (some ⟨bx, 0, none⟩) ∧ t = .pointer (some ⟨bz, 0, none⟩) ∧ w'.cell? ⟨bx, 0, none⟩ = some (.int .u64 p1) ∧ w'.cell? ⟨bx, 1, none⟩ = some (.int .u64 q1) ∧ w'.cell? ⟨bx, 2, none⟩ = some (.bool g1) ∧ w'.cell? ⟨bz, 0, none⟩ = some (.int .u64 p2) ∧ w'.cell? ⟨bz, 1, none⟩ = some (.int .u64 q2) ∧ w'.cell? ⟨bz, 2, none⟩ = some (.bool g2) ∧ Below w2.heap.size w2 w')
  case first =>
    go_region_held3 (fun w' => Below w2.heap.size w2 w')
      (first | with_reducible assumption | with_reducible exact set3 (by assumption) (Nat.le_refl _) _ _ _ | with_reducible exact set3 (by assumption) (Nat.le_succ _) _ _ _ | with_reducible exact set3 (by assumption) (Below.size (by assumption)) _ _ _ | with_reducible exact set3 (by assumption) (Nat.le_succ_of_le (Below.size (by assumption))) _ _ _ | with_reducible exact set3 (Below.alloc (by assumption) (Below.size (by assumption)) _) (Nat.le_refl _) _ _ _ | with_reducible exact set3 (Below.alloc (by assumption) (Below.size (by assumption)) _) (Nat.le_succ _) _ _ _ | with_reducible exact set3 (Below.alloc (by assumption) (Below.size (by assumption)) _) (Below.size (by assumption)) _ _ _ | with_reducible exact set3 (Below.alloc (by assumption) (Below.size (by assumption)) _) (Nat.le_succ_of_le (Below.size (by assumption))) _ _ _ | with_reducible exact Below.drew (Below.refl _ _) | with_reducible exact below_drewN (Below.refl _ _) _ | with_reducible exact Below.alloc (by assumption) (Below.size (by assumption)) _ | with_reducible exact Below.alloc (Below.alloc (by assumption) (Below.size (by assumption)) _) (le2 (by assumption)) _ | with_reducible exact Below.alloc (Below.drew (Below.refl _ _)) (Nat.le_refl _) _ | with_reducible exact Below.drew (Below.alloc (Below.refl _ _) (Nat.le_refl _) _) | with_reducible exact Below.drew (Below.alloc (Below.alloc (Below.refl _ _) (Nat.le_refl _) _) (le2 (Below.refl _ _)) _) | with_reducible exact Below.alloc (Below.alloc (Below.drew (Below.refl _ _)) (Nat.le_refl _) _) (le2 (Below.drew (Below.refl _ _))) _ | with_reducible exact al3 (by assumption) (Nat.le_refl _) _ _ _ _ | with_reducible exact al3 (by assumption) (Nat.le_succ _) _ _ _ _ | with_reducible exact al3 (by assumption) (Below.size (by assumption)) _ _ _ _ | with_reducible exact al3 (by assumption) (Nat.le_succ_of_le (Below.size (by assumption))) _ _ _ _)
      (first
        | (go_at_call_of 25 an; refine (HTa.out _).mono ?_; rintro e' w' ⟨rfl, hb⟩; have hW : Below w2.heap.size w2 w' := beyond (w := w2) (by (first | with_reducible assumption | with_reducible exact Below.drew (Below.refl _ _) | with_reducible exact below_drewN (Below.refl _ _) _ | with_reducible exact Below.alloc (by assumption) (Below.size (by assumption)) _ | with_reducible exact Below.alloc (Below.alloc (by assumption) (Below.size (by assumption)) _) (le2 (by assumption)) _ | with_reducible exact Below.alloc (Below.drew (Below.refl _ _)) (Nat.le_refl _) _ | with_reducible exact Below.drew (Below.alloc (Below.refl _ _) (Nat.le_refl _) _) | with_reducible exact Below.drew (Below.alloc (Below.alloc (Below.refl _ _) (Nat.le_refl _) _) (le2 (Below.refl _ _)) _) | with_reducible exact Below.alloc (Below.alloc (Below.drew (Below.refl _ _)) (Nat.le_refl _) _) (le2 (Below.drew (Below.refl _ _))) _)) hb; have zz := hW.size; (first | (with_reducible (have pp := newTwoI hb); obtain ⟨p0, p1, p2, p3, p4, p5, p6, p7, p8, p9, p10, p11, p12, p13, p14⟩ := pp; with_reducible (have qq := newTwo2I hb); obtain ⟨q0, q1, q2, q3, q4, q5, q6, q7, q8, q9, q10, q11, q12, q13, q14⟩ := qq) | (with_reducible (have pp := newOneI hb); obtain ⟨p0, p1, p2, p3, p4, p5, p6, p7, p8, p9, p10, p11, p12, p13, p14⟩ := pp) | (with_reducible (have pp := newTwo hb); obtain ⟨p0, p1, p2, p3, p4, p5, p6, p7, p8, p9, p10, p11, p12, p13, p14⟩ := pp; with_reducible (have qq := newTwo2 hb); obtain ⟨q0, q1, q2, q3, q4, q5, q6, q7, q8, q9, q10, q11, q12, q13, q14⟩ := qq) | (with_reducible (have pp := newTwoD hb); obtain ⟨p0, p1, p2, p3, p4, p5, p6, p7, p8, p9, p10, p11, p12, p13, p14⟩ := pp; with_reducible (have qq := newTwo2D hb); obtain ⟨q0, q1, q2, q3, q4, q5, q6, q7, q8, q9, q10, q11, q12, q13, q14⟩ := qq) | (with_reducible (have pp := newOne hb); obtain ⟨p0, p1, p2, p3, p4, p5, p6, p7, p8, p9, p10, p11, p12, p13, p14⟩ := pp) | (with_reducible (have pp := newOneD hb); obtain ⟨p0, p1, p2, p3, p4, p5, p6, p7, p8, p9, p10, p11, p12, p13, p14⟩ := pp) | skip))
        | (go_at_call 25; refine (HTb.out _).mono ?_; rintro e' w' ⟨rfl, hb⟩; have hW : Below w2.heap.size w2 w' := beyond (w := w2) (by (first | with_reducible assumption | with_reducible exact Below.drew (Below.refl _ _) | with_reducible exact below_drewN (Below.refl _ _) _ | with_reducible exact Below.alloc (by assumption) (Below.size (by assumption)) _ | with_reducible exact Below.alloc (Below.alloc (by assumption) (Below.size (by assumption)) _) (le2 (by assumption)) _ | with_reducible exact Below.alloc (Below.drew (Below.refl _ _)) (Nat.le_refl _) _ | with_reducible exact Below.drew (Below.alloc (Below.refl _ _) (Nat.le_refl _) _) | with_reducible exact Below.drew (Below.alloc (Below.alloc (Below.refl _ _) (Nat.le_refl _) _) (le2 (Below.refl _ _)) _) | with_reducible exact Below.alloc (Below.alloc (Below.drew (Below.refl _ _)) (Nat.le_refl _) _) (le2 (Below.drew (Below.refl _ _))) _)) hb; have zz := hW.size; (first | (with_reducible (have PP := carry hb p0 p1 p2 p3 p4 p5); obtain ⟨P0, P1, P2, P3, P4, P5, P6, P7, P8, P9, P10, P11, P12, P13, P14⟩ := PP) | (with_reducible (have PP := carry hb (p6 _) (p7 _) (p8 _) (p9 _) (p10 _) (p11 _)); obtain ⟨P0, P1, P2, P3, P4, P5, P6, P7, P8, P9, P10, P11, P12, P13, P14⟩ := PP) | skip); (first | (with_reducible (have QQ := carry hb q0 q1 q2 q3 q4 q5); obtain ⟨Q0, Q1, Q2, Q3, Q4, Q5, Q6, Q7, Q8, Q9, Q10, Q11, Q12, Q13, Q14⟩ := QQ) | (with_reducible (have QQ := carry hb (q6 _) (q7 _) (q8 _) (q9 _) (q10 _) (q11 _)); obtain ⟨Q0, Q1, Q2, Q3, Q4, Q5, Q6, Q7, Q8, Q9, Q10, Q11, Q12, Q13, Q14⟩ := QQ) | skip); (first | (with_reducible (have rr := newTwoI hb); obtain ⟨r0, r1, r2, r3, r4, r5, r6, r7, r8, r9, r10, r11, r12, r13, r14⟩ := rr; with_reducible (have ss := newTwo2I hb); obtain ⟨s0, s1, s2, s3, s4, s5, s6, s7, s8, s9, s10, s11, s12, s13, s14⟩ := ss) | (with_reducible (have rr := newOneI hb); obtain ⟨r0, r1, r2, r3, r4, r5, r6, r7, r8, r9, r10, r11, r12, r13, r14⟩ := rr) | (with_reducible (have rr := newTwo hb); obtain ⟨r0, r1, r2, r3, r4, r5, r6, r7, r8, r9, r10, r11, r12, r13, r14⟩ := rr; with_reducible (have ss := newTwo2 hb); obtain ⟨s0, s1, s2, s3, s4, s5, s6, s7, s8, s9, s10, s11, s12, s13, s14⟩ := ss) | (with_reducible (have rr := newTwoD hb); obtain ⟨r0, r1, r2, r3, r4, r5, r6, r7, r8, r9, r10, r11, r12, r13, r14⟩ := rr; with_reducible (have ss := newTwo2D hb); obtain ⟨s0, s1, s2, s3, s4, s5, s6, s7, s8, s9, s10, s11, s12, s13, s14⟩ := ss) | (with_reducible (have rr := newOne hb); obtain ⟨r0, r1, r2, r3, r4, r5, r6, r7, r8, r9, r10, r11, r12, r13, r14⟩ := rr) | (with_reducible (have rr := newOneD hb); obtain ⟨r0, r1, r2, r3, r4, r5, r6, r7, r8, r9, r10, r11, r12, r13, r14⟩ := rr) | skip)))
    all_goals go_wp2_with fail
    all_goals go_meet
    all_goals refine ⟨_, _, rfl, rfl, ?_, ?_, ?_, ?_, ?_, ?_, ?_⟩
    all_goals first | with_reducible assumption | (simp [go_sem]; done) | (go_simp; done) | (simp [go_sem, *]; done) | skip
  case rest =>
    obtain ⟨bx, bz, rfl, rfl, c0, c1, c2, c3, c4, c5, hW⟩ := hcut
    clear nc0 nc1 nc2 nf0 nf1 nf2 rc u0 u1 u2 u3
    go_upto_region 4 with (fail)
    go_region_held3 (fun w' => w'.cell? ⟨bx, 0, none⟩ = some (.int .u64 p1) ∧ w'.cell? ⟨bx, 1, none⟩ = some (.int .u64 q1) ∧ w'.cell? ⟨bx, 2, none⟩ = some (.bool g1) ∧ w'.cell? ⟨bz, 0, none⟩ = some (.int .u64 p2) ∧ w'.cell? ⟨bz, 1, none⟩ = some (.int .u64 q2) ∧ w'.cell? ⟨bz, 2, none⟩ = some (.bool g2))
      (first | exact ⟨by assumption, by assumption, by assumption, by assumption, by assumption, by assumption⟩ | go_keep)
      (first
        | (go_at_call_of 43 p1; refine (HX.out _).mono ?_; rintro e' w' ⟨rfl, hb⟩; have v0 := kc ⟨bx, 0, none⟩ (.int .u64 p1) hb (by first | assumption | simp [go_sem, *]); have v1 := kc ⟨bx, 1, none⟩ (.int .u64 q1) hb (by first | assumption | simp [go_sem, *]); have v2 := kc ⟨bx, 2, none⟩ (.bool g1) hb (by first | assumption | simp [go_sem, *]); have v3 := kc ⟨bz, 0, none⟩ (.int .u64 p2) hb (by first | assumption | simp [go_sem, *]); have v4 := kc ⟨bz, 1, none⟩ (.int .u64 q2) hb (by first | assumption | simp [go_sem, *]); have v5 := kc ⟨bz, 2, none⟩ (.bool g2) hb (by first | assumption | simp [go_sem, *]); have hX := beyond (w := w2) (by first | assumption | exact Below.drew hW | exact below_drewN hW _) hb)
        | (go_at_call 43; refine (HY.out _).mono ?_; rintro e' w' ⟨rfl, hb⟩; have v0 := kc ⟨bx, 0, none⟩ (.int .u64 p1) hb (by first | assumption | simp [go_sem, *]); have v1 := kc ⟨bx, 1, none⟩ (.int .u64 q1) hb (by first | assumption | simp [go_sem, *]); have v2 := kc ⟨bx, 2, none⟩ (.bool g1) hb (by first | assumption | simp [go_sem, *]); have v3 := kc ⟨bz, 0, none⟩ (.int .u64 p2) hb (by first | assumption | simp [go_sem, *]); have v4 := kc ⟨bz, 1, none⟩ (.int .u64 q2) hb (by first | assumption | simp [go_sem, *]); have v5 := kc ⟨bz, 2, none⟩ (.bool g2) hb (by first | assumption | simp [go_sem, *]); have hX := beyond (w := w2) (by first | assumption | exact Below.drew hW | exact below_drewN hW _) hb)
        | (go_at_call 32; refine (HO.out _).mono ?_; rintro e' w' ⟨rfl, hb⟩; have v0 := kc ⟨bx, 0, none⟩ (.int .u64 p1) hb (by first | assumption | simp [go_sem, *]); have v1 := kc ⟨bx, 1, none⟩ (.int .u64 q1) hb (by first | assumption | simp [go_sem, *]); have v2 := kc ⟨bx, 2, none⟩ (.bool g1) hb (by first | assumption | simp [go_sem, *]); have v3 := kc ⟨bz, 0, none⟩ (.int .u64 p2) hb (by first | assumption | simp [go_sem, *]); have v4 := kc ⟨bz, 1, none⟩ (.int .u64 q2) hb (by first | assumption | simp [go_sem, *]); have v5 := kc ⟨bz, 2, none⟩ (.bool g2) hb (by first | assumption | simp [go_sem, *]); have hX := beyond (w := w2) (by first | assumption | exact Below.drew hW | exact below_drewN hW _) hb)
        | (go_at_call 44; refine (HA.out _).mono ?_; rintro e' w' ⟨rfl, hb⟩; have v0 := kc ⟨bx, 0, none⟩ (.int .u64 p1) hb (by first | assumption | simp [go_sem, *]); have v1 := kc ⟨bx, 1, none⟩ (.int .u64 q1) hb (by first | assumption | simp [go_sem, *]); have v2 := kc ⟨bx, 2, none⟩ (.bool g1) hb (by first | assumption | simp [go_sem, *]); have v3 := kc ⟨bz, 0, none⟩ (.int .u64 p2) hb (by first | assumption | simp [go_sem, *]); have v4 := kc ⟨bz, 1, none⟩ (.int .u64 q2) hb (by first | assumption | simp [go_sem, *]); have v5 := kc ⟨bz, 2, none⟩ (.bool g2) hb (by first | assumption | simp [go_sem, *]); have hX := beyond (w := w2) (by first | assumption | exact Below.drew hW | exact below_drewN hW _) hb)
        | (go_at_call 53; refine (HG.out _).mono ?_; rintro e' w' ⟨rfl, hb⟩; have v0 := kc ⟨bx, 0, none⟩ (.int .u64 p1) hb (by first | assumption | simp [go_sem, *]); have v1 := kc ⟨bx, 1, none⟩ (.int .u64 q1) hb (by first | assumption | simp [go_sem, *]); have v2 := kc ⟨bx, 2, none⟩ (.bool g1) hb (by first | assumption | simp [go_sem, *]); have v3 := kc ⟨bz, 0, none⟩ (.int .u64 p2) hb (by first | assumption | simp [go_sem, *]); have v4 := kc ⟨bz, 1, none⟩ (.int .u64 q2) hb (by first | assumption | simp [go_sem, *]); have v5 := kc ⟨bz, 2, none⟩ (.bool g2) hb (by first | assumption | simp [go_sem, *]); have hX := beyond (w := w2) (by first | assumption | exact Below.drew hW | exact below_drewN hW _) hb))
    all_goals
      go_wp2
      go_ret
      exact ⟨rfl, beyond HB2.out (by assumption)⟩
end Go.Proofs.Ytjanibholjimkaa
