/-
  The walk of the statement RatTurns.
-/
import Derived.Test.YthklhiicnggonaaDoorVi
namespace Go.Proofs.YthklhiicnggonaaDoor
open Go.RowKit Go.Shelf
set_option linter.unusedVariables false
abbrev CallsT (f : FuncId) (an ad bn bd : Int) (t : Int × Int × Int) : Prop := ∀ w, Calls Tryd.prog f #[rv an ad, rv bn bd] w fun e w' => e = .returned (trip t) ∧ Below w.heap.size w w'
set_option maxRecDepth 100000 in
set_option maxHeartbeats 4000000 in
theorem turns_11 (an ad bd sn sd pn pd bn : Int) (w : World) (ht : Pow w) (hbn : ¬ bn = 0)
    (HA : Hid (CallsT 15 an ad bn bd (sn, sd, 0))) (HA2 : Hid (CallsT 15 bn bd an ad (sn, sd, 0)))
    (HM : Hid (CallsT 19 an ad bn bd (pn, pd, 0))) (HM2 : Hid (CallsT 19 bn bd an ad (pn, pd, 0)))
    (HS : Hid (CallsT 17 sn sd bn bd (an, ad, 0)))
    (HD : Hid (CallsT 21 pn pd bn bd (an, ad, 0))) :
    Calls Tryd.prog 5 #[rv an ad, rv bn bd] w fun e w' => e = .returned (.bool true) ∧ Below w.heap.size w w' := by
  go_enter Tryd.func5, Tryd.ntmps5
  go_wp2_with fail
  refine (HA.out _).mono ?_
  rintro e w1 ⟨rfl, hb⟩
  have f1_0 := kc ⟨w.heap.size, 0, none⟩ (.int .i64 an) hb (by first | assumption | simp [go_sem, *])
  have f1_1 := kc ⟨w.heap.size, 1, none⟩ (.int .i64 ad) hb (by first | assumption | simp [go_sem, *])
  have f1_2 := kc ⟨w.heap.size + 1, 0, none⟩ (.int .i64 bn) hb (by first | assumption | simp [go_sem, *])
  have f1_3 := kc ⟨w.heap.size + 1, 1, none⟩ (.int .i64 bd) hb (by first | assumption | simp [go_sem, *])
  have hB1 : Below w.heap.size w w1 := beyond (two w _ _) hb
  clear hb
  have r1_0 : ∀ O, (w1.alloc O).cell? ⟨w.heap.size, 0, none⟩ = some (.int .i64 an) := fun O => kc _ _ (single _ _) f1_0
  have r1_1 : ∀ O, (w1.alloc O).cell? ⟨w.heap.size, 1, none⟩ = some (.int .i64 ad) := fun O => kc _ _ (single _ _) f1_1
  have r1_2 : ∀ O, (w1.alloc O).cell? ⟨w.heap.size + 1, 0, none⟩ = some (.int .i64 bn) := fun O => kc _ _ (single _ _) f1_2
  have r1_3 : ∀ O, (w1.alloc O).cell? ⟨w.heap.size + 1, 1, none⟩ = some (.int .i64 bd) := fun O => kc _ _ (single _ _) f1_3
  have rB1 : ∀ O, Below w.heap.size w (w1.alloc O) := fun O => beyond hB1 (single _ _)
  go_wp2_with fail
  refine (HA2.out _).mono ?_
  rintro e w2 ⟨rfl, hb⟩
  have f2_0 := kc ⟨w.heap.size, 0, none⟩ (.int .i64 an) hb (r1_0 _)
  have f2_1 := kc ⟨w.heap.size, 1, none⟩ (.int .i64 ad) hb (r1_1 _)
  have f2_2 := kc ⟨w.heap.size + 1, 0, none⟩ (.int .i64 bn) hb (r1_2 _)
  have f2_3 := kc ⟨w.heap.size + 1, 1, none⟩ (.int .i64 bd) hb (r1_3 _)
  have f2_4 := kc ⟨w1.heap.size, 0, none⟩ (.int .i64 sn) hb (new_cell w1 _ _ 0)
  have f2_5 := kc ⟨w1.heap.size, 1, none⟩ (.int .i64 sd) hb (new_cell w1 _ _ 1)
  have hB2 : Below w.heap.size w w2 := beyond (rB1 _) hb
  clear hb f1_0 f1_1 f1_2 f1_3 r1_0 r1_1 r1_2 r1_3 rB1 hB1
  have r2_0 : ∀ O, (w2.alloc O).cell? ⟨w.heap.size, 0, none⟩ = some (.int .i64 an) := fun O => kc _ _ (single _ _) f2_0
  have r2_1 : ∀ O, (w2.alloc O).cell? ⟨w.heap.size, 1, none⟩ = some (.int .i64 ad) := fun O => kc _ _ (single _ _) f2_1
  have r2_2 : ∀ O, (w2.alloc O).cell? ⟨w.heap.size + 1, 0, none⟩ = some (.int .i64 bn) := fun O => kc _ _ (single _ _) f2_2
  have r2_3 : ∀ O, (w2.alloc O).cell? ⟨w.heap.size + 1, 1, none⟩ = some (.int .i64 bd) := fun O => kc _ _ (single _ _) f2_3
  have r2_4 : ∀ O, (w2.alloc O).cell? ⟨w1.heap.size, 0, none⟩ = some (.int .i64 sn) := fun O => kc _ _ (single _ _) f2_4
  have r2_5 : ∀ O, (w2.alloc O).cell? ⟨w1.heap.size, 1, none⟩ = some (.int .i64 sd) := fun O => kc _ _ (single _ _) f2_5
  have rB2 : ∀ O, Below w.heap.size w (w2.alloc O) := fun O => beyond hB2 (single _ _)
  go_wp2_with fail
  refine (HM.out _).mono ?_
  rintro e w3 ⟨rfl, hb⟩
  have f3_0 := kc ⟨w.heap.size, 0, none⟩ (.int .i64 an) hb (r2_0 _)
  have f3_1 := kc ⟨w.heap.size, 1, none⟩ (.int .i64 ad) hb (r2_1 _)
  have f3_2 := kc ⟨w.heap.size + 1, 0, none⟩ (.int .i64 bn) hb (r2_2 _)
  have f3_3 := kc ⟨w.heap.size + 1, 1, none⟩ (.int .i64 bd) hb (r2_3 _)
  have f3_4 := kc ⟨w1.heap.size, 0, none⟩ (.int .i64 sn) hb (r2_4 _)
  have f3_5 := kc ⟨w1.heap.size, 1, none⟩ (.int .i64 sd) hb (r2_5 _)
  have f3_6 := kc ⟨w2.heap.size, 0, none⟩ (.int .i64 sn) hb (new_cell w2 _ _ 0)
  have f3_7 := kc ⟨w2.heap.size, 1, none⟩ (.int .i64 sd) hb (new_cell w2 _ _ 1)
  have hB3 : Below w.heap.size w w3 := beyond (rB2 _) hb
  clear hb f2_0 f2_1 f2_2 f2_3 f2_4 f2_5 r2_0 r2_1 r2_2 r2_3 r2_4 r2_5 rB2 hB2
  have r3_0 : ∀ O, (w3.alloc O).cell? ⟨w.heap.size, 0, none⟩ = some (.int .i64 an) := fun O => kc _ _ (single _ _) f3_0
  have r3_1 : ∀ O, (w3.alloc O).cell? ⟨w.heap.size, 1, none⟩ = some (.int .i64 ad) := fun O => kc _ _ (single _ _) f3_1
  have r3_2 : ∀ O, (w3.alloc O).cell? ⟨w.heap.size + 1, 0, none⟩ = some (.int .i64 bn) := fun O => kc _ _ (single _ _) f3_2
  have r3_3 : ∀ O, (w3.alloc O).cell? ⟨w.heap.size + 1, 1, none⟩ = some (.int .i64 bd) := fun O => kc _ _ (single _ _) f3_3
  have r3_4 : ∀ O, (w3.alloc O).cell? ⟨w1.heap.size, 0, none⟩ = some (.int .i64 sn) := fun O => kc _ _ (single _ _) f3_4
  have r3_5 : ∀ O, (w3.alloc O).cell? ⟨w1.heap.size, 1, none⟩ = some (.int .i64 sd) := fun O => kc _ _ (single _ _) f3_5
  have r3_6 : ∀ O, (w3.alloc O).cell? ⟨w2.heap.size, 0, none⟩ = some (.int .i64 sn) := fun O => kc _ _ (single _ _) f3_6
  have r3_7 : ∀ O, (w3.alloc O).cell? ⟨w2.heap.size, 1, none⟩ = some (.int .i64 sd) := fun O => kc _ _ (single _ _) f3_7
  have rB3 : ∀ O, Below w.heap.size w (w3.alloc O) := fun O => beyond hB3 (single _ _)
  go_wp2_with fail
  refine (HM2.out _).mono ?_
  rintro e w4 ⟨rfl, hb⟩
  have f4_0 := kc ⟨w.heap.size, 0, none⟩ (.int .i64 an) hb (r3_0 _)
  have f4_1 := kc ⟨w.heap.size, 1, none⟩ (.int .i64 ad) hb (r3_1 _)
  have f4_2 := kc ⟨w.heap.size + 1, 0, none⟩ (.int .i64 bn) hb (r3_2 _)
  have f4_3 := kc ⟨w.heap.size + 1, 1, none⟩ (.int .i64 bd) hb (r3_3 _)
  have f4_4 := kc ⟨w1.heap.size, 0, none⟩ (.int .i64 sn) hb (r3_4 _)
  have f4_5 := kc ⟨w1.heap.size, 1, none⟩ (.int .i64 sd) hb (r3_5 _)
  have f4_6 := kc ⟨w2.heap.size, 0, none⟩ (.int .i64 sn) hb (r3_6 _)
  have f4_7 := kc ⟨w2.heap.size, 1, none⟩ (.int .i64 sd) hb (r3_7 _)
  have f4_8 := kc ⟨w3.heap.size, 0, none⟩ (.int .i64 pn) hb (new_cell w3 _ _ 0)
  have f4_9 := kc ⟨w3.heap.size, 1, none⟩ (.int .i64 pd) hb (new_cell w3 _ _ 1)
  have hB4 : Below w.heap.size w w4 := beyond (rB3 _) hb
  clear hb f3_0 f3_1 f3_2 f3_3 f3_4 f3_5 f3_6 f3_7 r3_0 r3_1 r3_2 r3_3 r3_4 r3_5 r3_6 r3_7 rB3 hB3
  have r4_0 : ∀ O, (w4.alloc O).cell? ⟨w.heap.size, 0, none⟩ = some (.int .i64 an) := fun O => kc _ _ (single _ _) f4_0
  have r4_1 : ∀ O, (w4.alloc O).cell? ⟨w.heap.size, 1, none⟩ = some (.int .i64 ad) := fun O => kc _ _ (single _ _) f4_1
  have r4_2 : ∀ O, (w4.alloc O).cell? ⟨w.heap.size + 1, 0, none⟩ = some (.int .i64 bn) := fun O => kc _ _ (single _ _) f4_2
  have r4_3 : ∀ O, (w4.alloc O).cell? ⟨w.heap.size + 1, 1, none⟩ = some (.int .i64 bd) := fun O => kc _ _ (single _ _) f4_3
  have r4_4 : ∀ O, (w4.alloc O).cell? ⟨w1.heap.size, 0, none⟩ = some (.int .i64 sn) := fun O => kc _ _ (single _ _) f4_4
  have r4_5 : ∀ O, (w4.alloc O).cell? ⟨w1.heap.size, 1, none⟩ = some (.int .i64 sd) := fun O => kc _ _ (single _ _) f4_5
  have r4_6 : ∀ O, (w4.alloc O).cell? ⟨w2.heap.size, 0, none⟩ = some (.int .i64 sn) := fun O => kc _ _ (single _ _) f4_6
  have r4_7 : ∀ O, (w4.alloc O).cell? ⟨w2.heap.size, 1, none⟩ = some (.int .i64 sd) := fun O => kc _ _ (single _ _) f4_7
  have r4_8 : ∀ O, (w4.alloc O).cell? ⟨w3.heap.size, 0, none⟩ = some (.int .i64 pn) := fun O => kc _ _ (single _ _) f4_8
  have r4_9 : ∀ O, (w4.alloc O).cell? ⟨w3.heap.size, 1, none⟩ = some (.int .i64 pd) := fun O => kc _ _ (single _ _) f4_9
  have rB4 : ∀ O, Below w.heap.size w (w4.alloc O) := fun O => beyond hB4 (single _ _)
  go_wp2_with fail
  refine (live_any _ (pow_later ht (rB4 _))).mono ?_
  rintro e w5 ⟨rfl, hb⟩
  have f5_0 := kc ⟨w.heap.size, 0, none⟩ (.int .i64 an) hb (r4_0 _)
  have f5_1 := kc ⟨w.heap.size, 1, none⟩ (.int .i64 ad) hb (r4_1 _)
  have f5_2 := kc ⟨w.heap.size + 1, 0, none⟩ (.int .i64 bn) hb (r4_2 _)
  have f5_3 := kc ⟨w.heap.size + 1, 1, none⟩ (.int .i64 bd) hb (r4_3 _)
  have f5_4 := kc ⟨w1.heap.size, 0, none⟩ (.int .i64 sn) hb (r4_4 _)
  have f5_5 := kc ⟨w1.heap.size, 1, none⟩ (.int .i64 sd) hb (r4_5 _)
  have f5_6 := kc ⟨w2.heap.size, 0, none⟩ (.int .i64 sn) hb (r4_6 _)
  have f5_7 := kc ⟨w2.heap.size, 1, none⟩ (.int .i64 sd) hb (r4_7 _)
  have f5_8 := kc ⟨w3.heap.size, 0, none⟩ (.int .i64 pn) hb (r4_8 _)
  have f5_9 := kc ⟨w3.heap.size, 1, none⟩ (.int .i64 pd) hb (r4_9 _)
  have f5_10 := kc ⟨w4.heap.size, 0, none⟩ (.int .i64 pn) hb (new_cell w4 _ _ 0)
  have f5_11 := kc ⟨w4.heap.size, 1, none⟩ (.int .i64 pd) hb (new_cell w4 _ _ 1)
  have hB5 : Below w.heap.size w w5 := beyond (rB4 _) hb
  clear hb f4_0 f4_1 f4_2 f4_3 f4_4 f4_5 f4_6 f4_7 f4_8 f4_9 r4_0 r4_1 r4_2 r4_3 r4_4 r4_5 r4_6 r4_7 r4_8 r4_9 rB4 hB4
  go_wp2_with fail
  refine (HS.out _).mono ?_
  rintro e w6 ⟨rfl, hb⟩
  have f6_0 := kc ⟨w.heap.size, 0, none⟩ (.int .i64 an) hb f5_0
  have f6_1 := kc ⟨w.heap.size, 1, none⟩ (.int .i64 ad) hb f5_1
  have f6_2 := kc ⟨w.heap.size + 1, 0, none⟩ (.int .i64 bn) hb f5_2
  have f6_3 := kc ⟨w.heap.size + 1, 1, none⟩ (.int .i64 bd) hb f5_3
  have f6_4 := kc ⟨w1.heap.size, 0, none⟩ (.int .i64 sn) hb f5_4
  have f6_5 := kc ⟨w1.heap.size, 1, none⟩ (.int .i64 sd) hb f5_5
  have f6_6 := kc ⟨w2.heap.size, 0, none⟩ (.int .i64 sn) hb f5_6
  have f6_7 := kc ⟨w2.heap.size, 1, none⟩ (.int .i64 sd) hb f5_7
  have f6_8 := kc ⟨w3.heap.size, 0, none⟩ (.int .i64 pn) hb f5_8
  have f6_9 := kc ⟨w3.heap.size, 1, none⟩ (.int .i64 pd) hb f5_9
  have f6_10 := kc ⟨w4.heap.size, 0, none⟩ (.int .i64 pn) hb f5_10
  have f6_11 := kc ⟨w4.heap.size, 1, none⟩ (.int .i64 pd) hb f5_11
  have hB6 : Below w.heap.size w w6 := beyond (hB5) hb
  clear hb f5_0 f5_1 f5_2 f5_3 f5_4 f5_5 f5_6 f5_7 f5_8 f5_9 f5_10 f5_11 hB5
  have r6_0 : ∀ O, (w6.alloc O).cell? ⟨w.heap.size, 0, none⟩ = some (.int .i64 an) := fun O => kc _ _ (single _ _) f6_0
  have r6_1 : ∀ O, (w6.alloc O).cell? ⟨w.heap.size, 1, none⟩ = some (.int .i64 ad) := fun O => kc _ _ (single _ _) f6_1
  have r6_2 : ∀ O, (w6.alloc O).cell? ⟨w.heap.size + 1, 0, none⟩ = some (.int .i64 bn) := fun O => kc _ _ (single _ _) f6_2
  have r6_3 : ∀ O, (w6.alloc O).cell? ⟨w.heap.size + 1, 1, none⟩ = some (.int .i64 bd) := fun O => kc _ _ (single _ _) f6_3
  have r6_4 : ∀ O, (w6.alloc O).cell? ⟨w1.heap.size, 0, none⟩ = some (.int .i64 sn) := fun O => kc _ _ (single _ _) f6_4
  have r6_5 : ∀ O, (w6.alloc O).cell? ⟨w1.heap.size, 1, none⟩ = some (.int .i64 sd) := fun O => kc _ _ (single _ _) f6_5
  have r6_6 : ∀ O, (w6.alloc O).cell? ⟨w2.heap.size, 0, none⟩ = some (.int .i64 sn) := fun O => kc _ _ (single _ _) f6_6
  have r6_7 : ∀ O, (w6.alloc O).cell? ⟨w2.heap.size, 1, none⟩ = some (.int .i64 sd) := fun O => kc _ _ (single _ _) f6_7
  have r6_8 : ∀ O, (w6.alloc O).cell? ⟨w3.heap.size, 0, none⟩ = some (.int .i64 pn) := fun O => kc _ _ (single _ _) f6_8
  have r6_9 : ∀ O, (w6.alloc O).cell? ⟨w3.heap.size, 1, none⟩ = some (.int .i64 pd) := fun O => kc _ _ (single _ _) f6_9
  have r6_10 : ∀ O, (w6.alloc O).cell? ⟨w4.heap.size, 0, none⟩ = some (.int .i64 pn) := fun O => kc _ _ (single _ _) f6_10
  have r6_11 : ∀ O, (w6.alloc O).cell? ⟨w4.heap.size, 1, none⟩ = some (.int .i64 pd) := fun O => kc _ _ (single _ _) f6_11
  have rB6 : ∀ O, Below w.heap.size w (w6.alloc O) := fun O => beyond hB6 (single _ _)
  go_wp2_with fail
  refine (HD.out _).mono ?_
  rintro e w7 ⟨rfl, hb⟩
  have f7_0 := kc ⟨w.heap.size, 0, none⟩ (.int .i64 an) hb (r6_0 _)
  have f7_1 := kc ⟨w.heap.size, 1, none⟩ (.int .i64 ad) hb (r6_1 _)
  have f7_2 := kc ⟨w.heap.size + 1, 0, none⟩ (.int .i64 bn) hb (r6_2 _)
  have f7_3 := kc ⟨w.heap.size + 1, 1, none⟩ (.int .i64 bd) hb (r6_3 _)
  have f7_4 := kc ⟨w1.heap.size, 0, none⟩ (.int .i64 sn) hb (r6_4 _)
  have f7_5 := kc ⟨w1.heap.size, 1, none⟩ (.int .i64 sd) hb (r6_5 _)
  have f7_6 := kc ⟨w2.heap.size, 0, none⟩ (.int .i64 sn) hb (r6_6 _)
  have f7_7 := kc ⟨w2.heap.size, 1, none⟩ (.int .i64 sd) hb (r6_7 _)
  have f7_8 := kc ⟨w3.heap.size, 0, none⟩ (.int .i64 pn) hb (r6_8 _)
  have f7_9 := kc ⟨w3.heap.size, 1, none⟩ (.int .i64 pd) hb (r6_9 _)
  have f7_10 := kc ⟨w4.heap.size, 0, none⟩ (.int .i64 pn) hb (r6_10 _)
  have f7_11 := kc ⟨w4.heap.size, 1, none⟩ (.int .i64 pd) hb (r6_11 _)
  have f7_12 := kc ⟨w6.heap.size, 0, none⟩ (.int .i64 an) hb (new_cell w6 _ _ 0)
  have f7_13 := kc ⟨w6.heap.size, 1, none⟩ (.int .i64 ad) hb (new_cell w6 _ _ 1)
  have hB7 : Below w.heap.size w w7 := beyond (rB6 _) hb
  clear hb f6_0 f6_1 f6_2 f6_3 f6_4 f6_5 f6_6 f6_7 f6_8 f6_9 f6_10 f6_11 r6_0 r6_1 r6_2 r6_3 r6_4 r6_5 r6_6 r6_7 r6_8 r6_9 r6_10 r6_11 rB6 hB6
  have r7_0 : ∀ O, (w7.alloc O).cell? ⟨w.heap.size, 0, none⟩ = some (.int .i64 an) := fun O => kc _ _ (single _ _) f7_0
  have r7_1 : ∀ O, (w7.alloc O).cell? ⟨w.heap.size, 1, none⟩ = some (.int .i64 ad) := fun O => kc _ _ (single _ _) f7_1
  have r7_2 : ∀ O, (w7.alloc O).cell? ⟨w.heap.size + 1, 0, none⟩ = some (.int .i64 bn) := fun O => kc _ _ (single _ _) f7_2
  have r7_3 : ∀ O, (w7.alloc O).cell? ⟨w.heap.size + 1, 1, none⟩ = some (.int .i64 bd) := fun O => kc _ _ (single _ _) f7_3
  have r7_4 : ∀ O, (w7.alloc O).cell? ⟨w1.heap.size, 0, none⟩ = some (.int .i64 sn) := fun O => kc _ _ (single _ _) f7_4
  have r7_5 : ∀ O, (w7.alloc O).cell? ⟨w1.heap.size, 1, none⟩ = some (.int .i64 sd) := fun O => kc _ _ (single _ _) f7_5
  have r7_6 : ∀ O, (w7.alloc O).cell? ⟨w2.heap.size, 0, none⟩ = some (.int .i64 sn) := fun O => kc _ _ (single _ _) f7_6
  have r7_7 : ∀ O, (w7.alloc O).cell? ⟨w2.heap.size, 1, none⟩ = some (.int .i64 sd) := fun O => kc _ _ (single _ _) f7_7
  have r7_8 : ∀ O, (w7.alloc O).cell? ⟨w3.heap.size, 0, none⟩ = some (.int .i64 pn) := fun O => kc _ _ (single _ _) f7_8
  have r7_9 : ∀ O, (w7.alloc O).cell? ⟨w3.heap.size, 1, none⟩ = some (.int .i64 pd) := fun O => kc _ _ (single _ _) f7_9
  have r7_10 : ∀ O, (w7.alloc O).cell? ⟨w4.heap.size, 0, none⟩ = some (.int .i64 pn) := fun O => kc _ _ (single _ _) f7_10
  have r7_11 : ∀ O, (w7.alloc O).cell? ⟨w4.heap.size, 1, none⟩ = some (.int .i64 pd) := fun O => kc _ _ (single _ _) f7_11
  have r7_12 : ∀ O, (w7.alloc O).cell? ⟨w6.heap.size, 0, none⟩ = some (.int .i64 an) := fun O => kc _ _ (single _ _) f7_12
  have r7_13 : ∀ O, (w7.alloc O).cell? ⟨w6.heap.size, 1, none⟩ = some (.int .i64 ad) := fun O => kc _ _ (single _ _) f7_13
  have rB7 : ∀ O, Below w.heap.size w (w7.alloc O) := fun O => beyond hB7 (single _ _)
  go_wp2_with fail
  go_ret
  exact ⟨rfl, rB7 _⟩
set_option maxRecDepth 100000 in
set_option maxHeartbeats 4000000 in
theorem turns_10 (an ad bd sn sd pn pd pe bn : Int) (w : World) (ht : Pow w) (hpe : ¬ pe = 0)
    (HA : Hid (CallsT 15 an ad bn bd (sn, sd, 0))) (HA2 : Hid (CallsT 15 bn bd an ad (sn, sd, 0)))
    (HM : Hid (CallsT 19 an ad bn bd (pn, pd, pe))) (HM2 : Hid (CallsT 19 bn bd an ad (pn, pd, pe)))
    (HS : Hid (CallsT 17 sn sd bn bd (an, ad, 0))) :
    Calls Tryd.prog 5 #[rv an ad, rv bn bd] w fun e w' => e = .returned (.bool true) ∧ Below w.heap.size w w' := by
  go_enter Tryd.func5, Tryd.ntmps5
  go_wp2_with fail
  refine (HA.out _).mono ?_
  rintro e w1 ⟨rfl, hb⟩
  have f1_0 := kc ⟨w.heap.size, 0, none⟩ (.int .i64 an) hb (by first | assumption | simp [go_sem, *])
  have f1_1 := kc ⟨w.heap.size, 1, none⟩ (.int .i64 ad) hb (by first | assumption | simp [go_sem, *])
  have f1_2 := kc ⟨w.heap.size + 1, 0, none⟩ (.int .i64 bn) hb (by first | assumption | simp [go_sem, *])
  have f1_3 := kc ⟨w.heap.size + 1, 1, none⟩ (.int .i64 bd) hb (by first | assumption | simp [go_sem, *])
  have hB1 : Below w.heap.size w w1 := beyond (two w _ _) hb
  clear hb
  have r1_0 : ∀ O, (w1.alloc O).cell? ⟨w.heap.size, 0, none⟩ = some (.int .i64 an) := fun O => kc _ _ (single _ _) f1_0
  have r1_1 : ∀ O, (w1.alloc O).cell? ⟨w.heap.size, 1, none⟩ = some (.int .i64 ad) := fun O => kc _ _ (single _ _) f1_1
  have r1_2 : ∀ O, (w1.alloc O).cell? ⟨w.heap.size + 1, 0, none⟩ = some (.int .i64 bn) := fun O => kc _ _ (single _ _) f1_2
  have r1_3 : ∀ O, (w1.alloc O).cell? ⟨w.heap.size + 1, 1, none⟩ = some (.int .i64 bd) := fun O => kc _ _ (single _ _) f1_3
  have rB1 : ∀ O, Below w.heap.size w (w1.alloc O) := fun O => beyond hB1 (single _ _)
  go_wp2_with fail
  refine (HA2.out _).mono ?_
  rintro e w2 ⟨rfl, hb⟩
  have f2_0 := kc ⟨w.heap.size, 0, none⟩ (.int .i64 an) hb (r1_0 _)
  have f2_1 := kc ⟨w.heap.size, 1, none⟩ (.int .i64 ad) hb (r1_1 _)
  have f2_2 := kc ⟨w.heap.size + 1, 0, none⟩ (.int .i64 bn) hb (r1_2 _)
  have f2_3 := kc ⟨w.heap.size + 1, 1, none⟩ (.int .i64 bd) hb (r1_3 _)
  have f2_4 := kc ⟨w1.heap.size, 0, none⟩ (.int .i64 sn) hb (new_cell w1 _ _ 0)
  have f2_5 := kc ⟨w1.heap.size, 1, none⟩ (.int .i64 sd) hb (new_cell w1 _ _ 1)
  have hB2 : Below w.heap.size w w2 := beyond (rB1 _) hb
  clear hb f1_0 f1_1 f1_2 f1_3 r1_0 r1_1 r1_2 r1_3 rB1 hB1
  have r2_0 : ∀ O, (w2.alloc O).cell? ⟨w.heap.size, 0, none⟩ = some (.int .i64 an) := fun O => kc _ _ (single _ _) f2_0
  have r2_1 : ∀ O, (w2.alloc O).cell? ⟨w.heap.size, 1, none⟩ = some (.int .i64 ad) := fun O => kc _ _ (single _ _) f2_1
  have r2_2 : ∀ O, (w2.alloc O).cell? ⟨w.heap.size + 1, 0, none⟩ = some (.int .i64 bn) := fun O => kc _ _ (single _ _) f2_2
  have r2_3 : ∀ O, (w2.alloc O).cell? ⟨w.heap.size + 1, 1, none⟩ = some (.int .i64 bd) := fun O => kc _ _ (single _ _) f2_3
  have r2_4 : ∀ O, (w2.alloc O).cell? ⟨w1.heap.size, 0, none⟩ = some (.int .i64 sn) := fun O => kc _ _ (single _ _) f2_4
  have r2_5 : ∀ O, (w2.alloc O).cell? ⟨w1.heap.size, 1, none⟩ = some (.int .i64 sd) := fun O => kc _ _ (single _ _) f2_5
  have rB2 : ∀ O, Below w.heap.size w (w2.alloc O) := fun O => beyond hB2 (single _ _)
  go_wp2_with fail
  refine (HM.out _).mono ?_
  rintro e w3 ⟨rfl, hb⟩
  have f3_0 := kc ⟨w.heap.size, 0, none⟩ (.int .i64 an) hb (r2_0 _)
  have f3_1 := kc ⟨w.heap.size, 1, none⟩ (.int .i64 ad) hb (r2_1 _)
  have f3_2 := kc ⟨w.heap.size + 1, 0, none⟩ (.int .i64 bn) hb (r2_2 _)
  have f3_3 := kc ⟨w.heap.size + 1, 1, none⟩ (.int .i64 bd) hb (r2_3 _)
  have f3_4 := kc ⟨w1.heap.size, 0, none⟩ (.int .i64 sn) hb (r2_4 _)
  have f3_5 := kc ⟨w1.heap.size, 1, none⟩ (.int .i64 sd) hb (r2_5 _)
  have f3_6 := kc ⟨w2.heap.size, 0, none⟩ (.int .i64 sn) hb (new_cell w2 _ _ 0)
  have f3_7 := kc ⟨w2.heap.size, 1, none⟩ (.int .i64 sd) hb (new_cell w2 _ _ 1)
  have hB3 : Below w.heap.size w w3 := beyond (rB2 _) hb
  clear hb f2_0 f2_1 f2_2 f2_3 f2_4 f2_5 r2_0 r2_1 r2_2 r2_3 r2_4 r2_5 rB2 hB2
  have r3_0 : ∀ O, (w3.alloc O).cell? ⟨w.heap.size, 0, none⟩ = some (.int .i64 an) := fun O => kc _ _ (single _ _) f3_0
  have r3_1 : ∀ O, (w3.alloc O).cell? ⟨w.heap.size, 1, none⟩ = some (.int .i64 ad) := fun O => kc _ _ (single _ _) f3_1
  have r3_2 : ∀ O, (w3.alloc O).cell? ⟨w.heap.size + 1, 0, none⟩ = some (.int .i64 bn) := fun O => kc _ _ (single _ _) f3_2
  have r3_3 : ∀ O, (w3.alloc O).cell? ⟨w.heap.size + 1, 1, none⟩ = some (.int .i64 bd) := fun O => kc _ _ (single _ _) f3_3
  have r3_4 : ∀ O, (w3.alloc O).cell? ⟨w1.heap.size, 0, none⟩ = some (.int .i64 sn) := fun O => kc _ _ (single _ _) f3_4
  have r3_5 : ∀ O, (w3.alloc O).cell? ⟨w1.heap.size, 1, none⟩ = some (.int .i64 sd) := fun O => kc _ _ (single _ _) f3_5
  have r3_6 : ∀ O, (w3.alloc O).cell? ⟨w2.heap.size, 0, none⟩ = some (.int .i64 sn) := fun O => kc _ _ (single _ _) f3_6
  have r3_7 : ∀ O, (w3.alloc O).cell? ⟨w2.heap.size, 1, none⟩ = some (.int .i64 sd) := fun O => kc _ _ (single _ _) f3_7
  have rB3 : ∀ O, Below w.heap.size w (w3.alloc O) := fun O => beyond hB3 (single _ _)
  go_wp2_with fail
  refine (HM2.out _).mono ?_
  rintro e w4 ⟨rfl, hb⟩
  have f4_0 := kc ⟨w.heap.size, 0, none⟩ (.int .i64 an) hb (r3_0 _)
  have f4_1 := kc ⟨w.heap.size, 1, none⟩ (.int .i64 ad) hb (r3_1 _)
  have f4_2 := kc ⟨w.heap.size + 1, 0, none⟩ (.int .i64 bn) hb (r3_2 _)
  have f4_3 := kc ⟨w.heap.size + 1, 1, none⟩ (.int .i64 bd) hb (r3_3 _)
  have f4_4 := kc ⟨w1.heap.size, 0, none⟩ (.int .i64 sn) hb (r3_4 _)
  have f4_5 := kc ⟨w1.heap.size, 1, none⟩ (.int .i64 sd) hb (r3_5 _)
  have f4_6 := kc ⟨w2.heap.size, 0, none⟩ (.int .i64 sn) hb (r3_6 _)
  have f4_7 := kc ⟨w2.heap.size, 1, none⟩ (.int .i64 sd) hb (r3_7 _)
  have f4_8 := kc ⟨w3.heap.size, 0, none⟩ (.int .i64 pn) hb (new_cell w3 _ _ 0)
  have f4_9 := kc ⟨w3.heap.size, 1, none⟩ (.int .i64 pd) hb (new_cell w3 _ _ 1)
  have hB4 : Below w.heap.size w w4 := beyond (rB3 _) hb
  clear hb f3_0 f3_1 f3_2 f3_3 f3_4 f3_5 f3_6 f3_7 r3_0 r3_1 r3_2 r3_3 r3_4 r3_5 r3_6 r3_7 rB3 hB3
  have r4_0 : ∀ O, (w4.alloc O).cell? ⟨w.heap.size, 0, none⟩ = some (.int .i64 an) := fun O => kc _ _ (single _ _) f4_0
  have r4_1 : ∀ O, (w4.alloc O).cell? ⟨w.heap.size, 1, none⟩ = some (.int .i64 ad) := fun O => kc _ _ (single _ _) f4_1
  have r4_2 : ∀ O, (w4.alloc O).cell? ⟨w.heap.size + 1, 0, none⟩ = some (.int .i64 bn) := fun O => kc _ _ (single _ _) f4_2
  have r4_3 : ∀ O, (w4.alloc O).cell? ⟨w.heap.size + 1, 1, none⟩ = some (.int .i64 bd) := fun O => kc _ _ (single _ _) f4_3
  have r4_4 : ∀ O, (w4.alloc O).cell? ⟨w1.heap.size, 0, none⟩ = some (.int .i64 sn) := fun O => kc _ _ (single _ _) f4_4
  have r4_5 : ∀ O, (w4.alloc O).cell? ⟨w1.heap.size, 1, none⟩ = some (.int .i64 sd) := fun O => kc _ _ (single _ _) f4_5
  have r4_6 : ∀ O, (w4.alloc O).cell? ⟨w2.heap.size, 0, none⟩ = some (.int .i64 sn) := fun O => kc _ _ (single _ _) f4_6
  have r4_7 : ∀ O, (w4.alloc O).cell? ⟨w2.heap.size, 1, none⟩ = some (.int .i64 sd) := fun O => kc _ _ (single _ _) f4_7
  have r4_8 : ∀ O, (w4.alloc O).cell? ⟨w3.heap.size, 0, none⟩ = some (.int .i64 pn) := fun O => kc _ _ (single _ _) f4_8
  have r4_9 : ∀ O, (w4.alloc O).cell? ⟨w3.heap.size, 1, none⟩ = some (.int .i64 pd) := fun O => kc _ _ (single _ _) f4_9
  have rB4 : ∀ O, Below w.heap.size w (w4.alloc O) := fun O => beyond hB4 (single _ _)
  go_wp2_with fail
  refine (live_any _ (pow_later ht (rB4 _))).mono ?_
  rintro e w5 ⟨rfl, hb⟩
  have f5_0 := kc ⟨w.heap.size, 0, none⟩ (.int .i64 an) hb (r4_0 _)
  have f5_1 := kc ⟨w.heap.size, 1, none⟩ (.int .i64 ad) hb (r4_1 _)
  have f5_2 := kc ⟨w.heap.size + 1, 0, none⟩ (.int .i64 bn) hb (r4_2 _)
  have f5_3 := kc ⟨w.heap.size + 1, 1, none⟩ (.int .i64 bd) hb (r4_3 _)
  have f5_4 := kc ⟨w1.heap.size, 0, none⟩ (.int .i64 sn) hb (r4_4 _)
  have f5_5 := kc ⟨w1.heap.size, 1, none⟩ (.int .i64 sd) hb (r4_5 _)
  have f5_6 := kc ⟨w2.heap.size, 0, none⟩ (.int .i64 sn) hb (r4_6 _)
  have f5_7 := kc ⟨w2.heap.size, 1, none⟩ (.int .i64 sd) hb (r4_7 _)
  have f5_8 := kc ⟨w3.heap.size, 0, none⟩ (.int .i64 pn) hb (r4_8 _)
  have f5_9 := kc ⟨w3.heap.size, 1, none⟩ (.int .i64 pd) hb (r4_9 _)
  have f5_10 := kc ⟨w4.heap.size, 0, none⟩ (.int .i64 pn) hb (new_cell w4 _ _ 0)
  have f5_11 := kc ⟨w4.heap.size, 1, none⟩ (.int .i64 pd) hb (new_cell w4 _ _ 1)
  have hB5 : Below w.heap.size w w5 := beyond (rB4 _) hb
  clear hb f4_0 f4_1 f4_2 f4_3 f4_4 f4_5 f4_6 f4_7 f4_8 f4_9 r4_0 r4_1 r4_2 r4_3 r4_4 r4_5 r4_6 r4_7 r4_8 r4_9 rB4 hB4
  go_wp2_with fail
  refine (HS.out _).mono ?_
  rintro e w6 ⟨rfl, hb⟩
  have f6_0 := kc ⟨w.heap.size, 0, none⟩ (.int .i64 an) hb f5_0
  have f6_1 := kc ⟨w.heap.size, 1, none⟩ (.int .i64 ad) hb f5_1
  have f6_2 := kc ⟨w.heap.size + 1, 0, none⟩ (.int .i64 bn) hb f5_2
  have f6_3 := kc ⟨w.heap.size + 1, 1, none⟩ (.int .i64 bd) hb f5_3
  have f6_4 := kc ⟨w1.heap.size, 0, none⟩ (.int .i64 sn) hb f5_4
  have f6_5 := kc ⟨w1.heap.size, 1, none⟩ (.int .i64 sd) hb f5_5
  have f6_6 := kc ⟨w2.heap.size, 0, none⟩ (.int .i64 sn) hb f5_6
  have f6_7 := kc ⟨w2.heap.size, 1, none⟩ (.int .i64 sd) hb f5_7
  have f6_8 := kc ⟨w3.heap.size, 0, none⟩ (.int .i64 pn) hb f5_8
  have f6_9 := kc ⟨w3.heap.size, 1, none⟩ (.int .i64 pd) hb f5_9
  have f6_10 := kc ⟨w4.heap.size, 0, none⟩ (.int .i64 pn) hb f5_10
  have f6_11 := kc ⟨w4.heap.size, 1, none⟩ (.int .i64 pd) hb f5_11
  have hB6 : Below w.heap.size w w6 := beyond (hB5) hb
  clear hb f5_0 f5_1 f5_2 f5_3 f5_4 f5_5 f5_6 f5_7 f5_8 f5_9 f5_10 f5_11 hB5
  have r6_0 : ∀ O, (w6.alloc O).cell? ⟨w.heap.size, 0, none⟩ = some (.int .i64 an) := fun O => kc _ _ (single _ _) f6_0
  have r6_1 : ∀ O, (w6.alloc O).cell? ⟨w.heap.size, 1, none⟩ = some (.int .i64 ad) := fun O => kc _ _ (single _ _) f6_1
  have r6_2 : ∀ O, (w6.alloc O).cell? ⟨w.heap.size + 1, 0, none⟩ = some (.int .i64 bn) := fun O => kc _ _ (single _ _) f6_2
  have r6_3 : ∀ O, (w6.alloc O).cell? ⟨w.heap.size + 1, 1, none⟩ = some (.int .i64 bd) := fun O => kc _ _ (single _ _) f6_3
  have r6_4 : ∀ O, (w6.alloc O).cell? ⟨w1.heap.size, 0, none⟩ = some (.int .i64 sn) := fun O => kc _ _ (single _ _) f6_4
  have r6_5 : ∀ O, (w6.alloc O).cell? ⟨w1.heap.size, 1, none⟩ = some (.int .i64 sd) := fun O => kc _ _ (single _ _) f6_5
  have r6_6 : ∀ O, (w6.alloc O).cell? ⟨w2.heap.size, 0, none⟩ = some (.int .i64 sn) := fun O => kc _ _ (single _ _) f6_6
  have r6_7 : ∀ O, (w6.alloc O).cell? ⟨w2.heap.size, 1, none⟩ = some (.int .i64 sd) := fun O => kc _ _ (single _ _) f6_7
  have r6_8 : ∀ O, (w6.alloc O).cell? ⟨w3.heap.size, 0, none⟩ = some (.int .i64 pn) := fun O => kc _ _ (single _ _) f6_8
  have r6_9 : ∀ O, (w6.alloc O).cell? ⟨w3.heap.size, 1, none⟩ = some (.int .i64 pd) := fun O => kc _ _ (single _ _) f6_9
  have r6_10 : ∀ O, (w6.alloc O).cell? ⟨w4.heap.size, 0, none⟩ = some (.int .i64 pn) := fun O => kc _ _ (single _ _) f6_10
  have r6_11 : ∀ O, (w6.alloc O).cell? ⟨w4.heap.size, 1, none⟩ = some (.int .i64 pd) := fun O => kc _ _ (single _ _) f6_11
  have rB6 : ∀ O, Below w.heap.size w (w6.alloc O) := fun O => beyond hB6 (single _ _)
  go_wp2_with fail
  go_ret
  exact ⟨rfl, rB6 _⟩
set_option maxRecDepth 100000 in
set_option maxHeartbeats 4000000 in
theorem turns_1z (an ad bd sn sd pn pd : Int) (w : World) (ht : Pow w)
    (HA : Hid (CallsT 15 an ad 0 bd (sn, sd, 0))) (HA2 : Hid (CallsT 15 0 bd an ad (sn, sd, 0)))
    (HM : Hid (CallsT 19 an ad 0 bd (pn, pd, 0))) (HM2 : Hid (CallsT 19 0 bd an ad (pn, pd, 0)))
    (HS : Hid (CallsT 17 sn sd 0 bd (an, ad, 0))) :
    Calls Tryd.prog 5 #[rv an ad, rv 0 bd] w fun e w' => e = .returned (.bool true) ∧ Below w.heap.size w w' := by
  go_enter Tryd.func5, Tryd.ntmps5
  go_wp2_with fail
  refine (HA.out _).mono ?_
  rintro e w1 ⟨rfl, hb⟩
  have f1_0 := kc ⟨w.heap.size, 0, none⟩ (.int .i64 an) hb (by first | assumption | simp [go_sem, *])
  have f1_1 := kc ⟨w.heap.size, 1, none⟩ (.int .i64 ad) hb (by first | assumption | simp [go_sem, *])
  have f1_2 := kc ⟨w.heap.size + 1, 0, none⟩ (.int .i64 0) hb (by first | assumption | simp [go_sem, *])
  have f1_3 := kc ⟨w.heap.size + 1, 1, none⟩ (.int .i64 bd) hb (by first | assumption | simp [go_sem, *])
  have hB1 : Below w.heap.size w w1 := beyond (two w _ _) hb
  clear hb
  have r1_0 : ∀ O, (w1.alloc O).cell? ⟨w.heap.size, 0, none⟩ = some (.int .i64 an) := fun O => kc _ _ (single _ _) f1_0
  have r1_1 : ∀ O, (w1.alloc O).cell? ⟨w.heap.size, 1, none⟩ = some (.int .i64 ad) := fun O => kc _ _ (single _ _) f1_1
  have r1_2 : ∀ O, (w1.alloc O).cell? ⟨w.heap.size + 1, 0, none⟩ = some (.int .i64 0) := fun O => kc _ _ (single _ _) f1_2
  have r1_3 : ∀ O, (w1.alloc O).cell? ⟨w.heap.size + 1, 1, none⟩ = some (.int .i64 bd) := fun O => kc _ _ (single _ _) f1_3
  have rB1 : ∀ O, Below w.heap.size w (w1.alloc O) := fun O => beyond hB1 (single _ _)
  go_wp2_with fail
  refine (HA2.out _).mono ?_
  rintro e w2 ⟨rfl, hb⟩
  have f2_0 := kc ⟨w.heap.size, 0, none⟩ (.int .i64 an) hb (r1_0 _)
  have f2_1 := kc ⟨w.heap.size, 1, none⟩ (.int .i64 ad) hb (r1_1 _)
  have f2_2 := kc ⟨w.heap.size + 1, 0, none⟩ (.int .i64 0) hb (r1_2 _)
  have f2_3 := kc ⟨w.heap.size + 1, 1, none⟩ (.int .i64 bd) hb (r1_3 _)
  have f2_4 := kc ⟨w1.heap.size, 0, none⟩ (.int .i64 sn) hb (new_cell w1 _ _ 0)
  have f2_5 := kc ⟨w1.heap.size, 1, none⟩ (.int .i64 sd) hb (new_cell w1 _ _ 1)
  have hB2 : Below w.heap.size w w2 := beyond (rB1 _) hb
  clear hb f1_0 f1_1 f1_2 f1_3 r1_0 r1_1 r1_2 r1_3 rB1 hB1
  have r2_0 : ∀ O, (w2.alloc O).cell? ⟨w.heap.size, 0, none⟩ = some (.int .i64 an) := fun O => kc _ _ (single _ _) f2_0
  have r2_1 : ∀ O, (w2.alloc O).cell? ⟨w.heap.size, 1, none⟩ = some (.int .i64 ad) := fun O => kc _ _ (single _ _) f2_1
  have r2_2 : ∀ O, (w2.alloc O).cell? ⟨w.heap.size + 1, 0, none⟩ = some (.int .i64 0) := fun O => kc _ _ (single _ _) f2_2
  have r2_3 : ∀ O, (w2.alloc O).cell? ⟨w.heap.size + 1, 1, none⟩ = some (.int .i64 bd) := fun O => kc _ _ (single _ _) f2_3
  have r2_4 : ∀ O, (w2.alloc O).cell? ⟨w1.heap.size, 0, none⟩ = some (.int .i64 sn) := fun O => kc _ _ (single _ _) f2_4
  have r2_5 : ∀ O, (w2.alloc O).cell? ⟨w1.heap.size, 1, none⟩ = some (.int .i64 sd) := fun O => kc _ _ (single _ _) f2_5
  have rB2 : ∀ O, Below w.heap.size w (w2.alloc O) := fun O => beyond hB2 (single _ _)
  go_wp2_with fail
  refine (HM.out _).mono ?_
  rintro e w3 ⟨rfl, hb⟩
  have f3_0 := kc ⟨w.heap.size, 0, none⟩ (.int .i64 an) hb (r2_0 _)
  have f3_1 := kc ⟨w.heap.size, 1, none⟩ (.int .i64 ad) hb (r2_1 _)
  have f3_2 := kc ⟨w.heap.size + 1, 0, none⟩ (.int .i64 0) hb (r2_2 _)
  have f3_3 := kc ⟨w.heap.size + 1, 1, none⟩ (.int .i64 bd) hb (r2_3 _)
  have f3_4 := kc ⟨w1.heap.size, 0, none⟩ (.int .i64 sn) hb (r2_4 _)
  have f3_5 := kc ⟨w1.heap.size, 1, none⟩ (.int .i64 sd) hb (r2_5 _)
  have f3_6 := kc ⟨w2.heap.size, 0, none⟩ (.int .i64 sn) hb (new_cell w2 _ _ 0)
  have f3_7 := kc ⟨w2.heap.size, 1, none⟩ (.int .i64 sd) hb (new_cell w2 _ _ 1)
  have hB3 : Below w.heap.size w w3 := beyond (rB2 _) hb
  clear hb f2_0 f2_1 f2_2 f2_3 f2_4 f2_5 r2_0 r2_1 r2_2 r2_3 r2_4 r2_5 rB2 hB2
  have r3_0 : ∀ O, (w3.alloc O).cell? ⟨w.heap.size, 0, none⟩ = some (.int .i64 an) := fun O => kc _ _ (single _ _) f3_0
  have r3_1 : ∀ O, (w3.alloc O).cell? ⟨w.heap.size, 1, none⟩ = some (.int .i64 ad) := fun O => kc _ _ (single _ _) f3_1
  have r3_2 : ∀ O, (w3.alloc O).cell? ⟨w.heap.size + 1, 0, none⟩ = some (.int .i64 0) := fun O => kc _ _ (single _ _) f3_2
  have r3_3 : ∀ O, (w3.alloc O).cell? ⟨w.heap.size + 1, 1, none⟩ = some (.int .i64 bd) := fun O => kc _ _ (single _ _) f3_3
  have r3_4 : ∀ O, (w3.alloc O).cell? ⟨w1.heap.size, 0, none⟩ = some (.int .i64 sn) := fun O => kc _ _ (single _ _) f3_4
  have r3_5 : ∀ O, (w3.alloc O).cell? ⟨w1.heap.size, 1, none⟩ = some (.int .i64 sd) := fun O => kc _ _ (single _ _) f3_5
  have r3_6 : ∀ O, (w3.alloc O).cell? ⟨w2.heap.size, 0, none⟩ = some (.int .i64 sn) := fun O => kc _ _ (single _ _) f3_6
  have r3_7 : ∀ O, (w3.alloc O).cell? ⟨w2.heap.size, 1, none⟩ = some (.int .i64 sd) := fun O => kc _ _ (single _ _) f3_7
  have rB3 : ∀ O, Below w.heap.size w (w3.alloc O) := fun O => beyond hB3 (single _ _)
  go_wp2_with fail
  refine (HM2.out _).mono ?_
  rintro e w4 ⟨rfl, hb⟩
  have f4_0 := kc ⟨w.heap.size, 0, none⟩ (.int .i64 an) hb (r3_0 _)
  have f4_1 := kc ⟨w.heap.size, 1, none⟩ (.int .i64 ad) hb (r3_1 _)
  have f4_2 := kc ⟨w.heap.size + 1, 0, none⟩ (.int .i64 0) hb (r3_2 _)
  have f4_3 := kc ⟨w.heap.size + 1, 1, none⟩ (.int .i64 bd) hb (r3_3 _)
  have f4_4 := kc ⟨w1.heap.size, 0, none⟩ (.int .i64 sn) hb (r3_4 _)
  have f4_5 := kc ⟨w1.heap.size, 1, none⟩ (.int .i64 sd) hb (r3_5 _)
  have f4_6 := kc ⟨w2.heap.size, 0, none⟩ (.int .i64 sn) hb (r3_6 _)
  have f4_7 := kc ⟨w2.heap.size, 1, none⟩ (.int .i64 sd) hb (r3_7 _)
  have f4_8 := kc ⟨w3.heap.size, 0, none⟩ (.int .i64 pn) hb (new_cell w3 _ _ 0)
  have f4_9 := kc ⟨w3.heap.size, 1, none⟩ (.int .i64 pd) hb (new_cell w3 _ _ 1)
  have hB4 : Below w.heap.size w w4 := beyond (rB3 _) hb
  clear hb f3_0 f3_1 f3_2 f3_3 f3_4 f3_5 f3_6 f3_7 r3_0 r3_1 r3_2 r3_3 r3_4 r3_5 r3_6 r3_7 rB3 hB3
  have r4_0 : ∀ O, (w4.alloc O).cell? ⟨w.heap.size, 0, none⟩ = some (.int .i64 an) := fun O => kc _ _ (single _ _) f4_0
  have r4_1 : ∀ O, (w4.alloc O).cell? ⟨w.heap.size, 1, none⟩ = some (.int .i64 ad) := fun O => kc _ _ (single _ _) f4_1
  have r4_2 : ∀ O, (w4.alloc O).cell? ⟨w.heap.size + 1, 0, none⟩ = some (.int .i64 0) := fun O => kc _ _ (single _ _) f4_2
  have r4_3 : ∀ O, (w4.alloc O).cell? ⟨w.heap.size + 1, 1, none⟩ = some (.int .i64 bd) := fun O => kc _ _ (single _ _) f4_3
  have r4_4 : ∀ O, (w4.alloc O).cell? ⟨w1.heap.size, 0, none⟩ = some (.int .i64 sn) := fun O => kc _ _ (single _ _) f4_4
  have r4_5 : ∀ O, (w4.alloc O).cell? ⟨w1.heap.size, 1, none⟩ = some (.int .i64 sd) := fun O => kc _ _ (single _ _) f4_5
  have r4_6 : ∀ O, (w4.alloc O).cell? ⟨w2.heap.size, 0, none⟩ = some (.int .i64 sn) := fun O => kc _ _ (single _ _) f4_6
  have r4_7 : ∀ O, (w4.alloc O).cell? ⟨w2.heap.size, 1, none⟩ = some (.int .i64 sd) := fun O => kc _ _ (single _ _) f4_7
  have r4_8 : ∀ O, (w4.alloc O).cell? ⟨w3.heap.size, 0, none⟩ = some (.int .i64 pn) := fun O => kc _ _ (single _ _) f4_8
  have r4_9 : ∀ O, (w4.alloc O).cell? ⟨w3.heap.size, 1, none⟩ = some (.int .i64 pd) := fun O => kc _ _ (single _ _) f4_9
  have rB4 : ∀ O, Below w.heap.size w (w4.alloc O) := fun O => beyond hB4 (single _ _)
  go_wp2_with fail
  refine (live_any _ (pow_later ht (rB4 _))).mono ?_
  rintro e w5 ⟨rfl, hb⟩
  have f5_0 := kc ⟨w.heap.size, 0, none⟩ (.int .i64 an) hb (r4_0 _)
  have f5_1 := kc ⟨w.heap.size, 1, none⟩ (.int .i64 ad) hb (r4_1 _)
  have f5_2 := kc ⟨w.heap.size + 1, 0, none⟩ (.int .i64 0) hb (r4_2 _)
  have f5_3 := kc ⟨w.heap.size + 1, 1, none⟩ (.int .i64 bd) hb (r4_3 _)
  have f5_4 := kc ⟨w1.heap.size, 0, none⟩ (.int .i64 sn) hb (r4_4 _)
  have f5_5 := kc ⟨w1.heap.size, 1, none⟩ (.int .i64 sd) hb (r4_5 _)
  have f5_6 := kc ⟨w2.heap.size, 0, none⟩ (.int .i64 sn) hb (r4_6 _)
  have f5_7 := kc ⟨w2.heap.size, 1, none⟩ (.int .i64 sd) hb (r4_7 _)
  have f5_8 := kc ⟨w3.heap.size, 0, none⟩ (.int .i64 pn) hb (r4_8 _)
  have f5_9 := kc ⟨w3.heap.size, 1, none⟩ (.int .i64 pd) hb (r4_9 _)
  have f5_10 := kc ⟨w4.heap.size, 0, none⟩ (.int .i64 pn) hb (new_cell w4 _ _ 0)
  have f5_11 := kc ⟨w4.heap.size, 1, none⟩ (.int .i64 pd) hb (new_cell w4 _ _ 1)
  have hB5 : Below w.heap.size w w5 := beyond (rB4 _) hb
  clear hb f4_0 f4_1 f4_2 f4_3 f4_4 f4_5 f4_6 f4_7 f4_8 f4_9 r4_0 r4_1 r4_2 r4_3 r4_4 r4_5 r4_6 r4_7 r4_8 r4_9 rB4 hB4
  go_wp2_with fail
  refine (HS.out _).mono ?_
  rintro e w6 ⟨rfl, hb⟩
  have f6_0 := kc ⟨w.heap.size, 0, none⟩ (.int .i64 an) hb f5_0
  have f6_1 := kc ⟨w.heap.size, 1, none⟩ (.int .i64 ad) hb f5_1
  have f6_2 := kc ⟨w.heap.size + 1, 0, none⟩ (.int .i64 0) hb f5_2
  have f6_3 := kc ⟨w.heap.size + 1, 1, none⟩ (.int .i64 bd) hb f5_3
  have f6_4 := kc ⟨w1.heap.size, 0, none⟩ (.int .i64 sn) hb f5_4
  have f6_5 := kc ⟨w1.heap.size, 1, none⟩ (.int .i64 sd) hb f5_5
  have f6_6 := kc ⟨w2.heap.size, 0, none⟩ (.int .i64 sn) hb f5_6
  have f6_7 := kc ⟨w2.heap.size, 1, none⟩ (.int .i64 sd) hb f5_7
  have f6_8 := kc ⟨w3.heap.size, 0, none⟩ (.int .i64 pn) hb f5_8
  have f6_9 := kc ⟨w3.heap.size, 1, none⟩ (.int .i64 pd) hb f5_9
  have f6_10 := kc ⟨w4.heap.size, 0, none⟩ (.int .i64 pn) hb f5_10
  have f6_11 := kc ⟨w4.heap.size, 1, none⟩ (.int .i64 pd) hb f5_11
  have hB6 : Below w.heap.size w w6 := beyond (hB5) hb
  clear hb f5_0 f5_1 f5_2 f5_3 f5_4 f5_5 f5_6 f5_7 f5_8 f5_9 f5_10 f5_11 hB5
  have r6_0 : ∀ O, (w6.alloc O).cell? ⟨w.heap.size, 0, none⟩ = some (.int .i64 an) := fun O => kc _ _ (single _ _) f6_0
  have r6_1 : ∀ O, (w6.alloc O).cell? ⟨w.heap.size, 1, none⟩ = some (.int .i64 ad) := fun O => kc _ _ (single _ _) f6_1
  have r6_2 : ∀ O, (w6.alloc O).cell? ⟨w.heap.size + 1, 0, none⟩ = some (.int .i64 0) := fun O => kc _ _ (single _ _) f6_2
  have r6_3 : ∀ O, (w6.alloc O).cell? ⟨w.heap.size + 1, 1, none⟩ = some (.int .i64 bd) := fun O => kc _ _ (single _ _) f6_3
  have r6_4 : ∀ O, (w6.alloc O).cell? ⟨w1.heap.size, 0, none⟩ = some (.int .i64 sn) := fun O => kc _ _ (single _ _) f6_4
  have r6_5 : ∀ O, (w6.alloc O).cell? ⟨w1.heap.size, 1, none⟩ = some (.int .i64 sd) := fun O => kc _ _ (single _ _) f6_5
  have r6_6 : ∀ O, (w6.alloc O).cell? ⟨w2.heap.size, 0, none⟩ = some (.int .i64 sn) := fun O => kc _ _ (single _ _) f6_6
  have r6_7 : ∀ O, (w6.alloc O).cell? ⟨w2.heap.size, 1, none⟩ = some (.int .i64 sd) := fun O => kc _ _ (single _ _) f6_7
  have r6_8 : ∀ O, (w6.alloc O).cell? ⟨w3.heap.size, 0, none⟩ = some (.int .i64 pn) := fun O => kc _ _ (single _ _) f6_8
  have r6_9 : ∀ O, (w6.alloc O).cell? ⟨w3.heap.size, 1, none⟩ = some (.int .i64 pd) := fun O => kc _ _ (single _ _) f6_9
  have r6_10 : ∀ O, (w6.alloc O).cell? ⟨w4.heap.size, 0, none⟩ = some (.int .i64 pn) := fun O => kc _ _ (single _ _) f6_10
  have r6_11 : ∀ O, (w6.alloc O).cell? ⟨w4.heap.size, 1, none⟩ = some (.int .i64 pd) := fun O => kc _ _ (single _ _) f6_11
  have rB6 : ∀ O, Below w.heap.size w (w6.alloc O) := fun O => beyond hB6 (single _ _)
  go_wp2_with fail
  go_ret
  exact ⟨rfl, rB6 _⟩
set_option maxRecDepth 100000 in
set_option maxHeartbeats 4000000 in
theorem turns_01 (an ad bd sn sd pn pd se bn : Int) (w : World) (ht : Pow w) (hse : ¬ se = 0) (hbn : ¬ bn = 0)
    (HA : Hid (CallsT 15 an ad bn bd (sn, sd, se))) (HA2 : Hid (CallsT 15 bn bd an ad (sn, sd, se)))
    (HM : Hid (CallsT 19 an ad bn bd (pn, pd, 0))) (HM2 : Hid (CallsT 19 bn bd an ad (pn, pd, 0)))
    (HD : Hid (CallsT 21 pn pd bn bd (an, ad, 0))) :
    Calls Tryd.prog 5 #[rv an ad, rv bn bd] w fun e w' => e = .returned (.bool true) ∧ Below w.heap.size w w' := by
  go_enter Tryd.func5, Tryd.ntmps5
  go_wp2_with fail
  refine (HA.out _).mono ?_
  rintro e w1 ⟨rfl, hb⟩
  have f1_0 := kc ⟨w.heap.size, 0, none⟩ (.int .i64 an) hb (by first | assumption | simp [go_sem, *])
  have f1_1 := kc ⟨w.heap.size, 1, none⟩ (.int .i64 ad) hb (by first | assumption | simp [go_sem, *])
  have f1_2 := kc ⟨w.heap.size + 1, 0, none⟩ (.int .i64 bn) hb (by first | assumption | simp [go_sem, *])
  have f1_3 := kc ⟨w.heap.size + 1, 1, none⟩ (.int .i64 bd) hb (by first | assumption | simp [go_sem, *])
  have hB1 : Below w.heap.size w w1 := beyond (two w _ _) hb
  clear hb
  have r1_0 : ∀ O, (w1.alloc O).cell? ⟨w.heap.size, 0, none⟩ = some (.int .i64 an) := fun O => kc _ _ (single _ _) f1_0
  have r1_1 : ∀ O, (w1.alloc O).cell? ⟨w.heap.size, 1, none⟩ = some (.int .i64 ad) := fun O => kc _ _ (single _ _) f1_1
  have r1_2 : ∀ O, (w1.alloc O).cell? ⟨w.heap.size + 1, 0, none⟩ = some (.int .i64 bn) := fun O => kc _ _ (single _ _) f1_2
  have r1_3 : ∀ O, (w1.alloc O).cell? ⟨w.heap.size + 1, 1, none⟩ = some (.int .i64 bd) := fun O => kc _ _ (single _ _) f1_3
  have rB1 : ∀ O, Below w.heap.size w (w1.alloc O) := fun O => beyond hB1 (single _ _)
  go_wp2_with fail
  refine (HA2.out _).mono ?_
  rintro e w2 ⟨rfl, hb⟩
  have f2_0 := kc ⟨w.heap.size, 0, none⟩ (.int .i64 an) hb (r1_0 _)
  have f2_1 := kc ⟨w.heap.size, 1, none⟩ (.int .i64 ad) hb (r1_1 _)
  have f2_2 := kc ⟨w.heap.size + 1, 0, none⟩ (.int .i64 bn) hb (r1_2 _)
  have f2_3 := kc ⟨w.heap.size + 1, 1, none⟩ (.int .i64 bd) hb (r1_3 _)
  have f2_4 := kc ⟨w1.heap.size, 0, none⟩ (.int .i64 sn) hb (new_cell w1 _ _ 0)
  have f2_5 := kc ⟨w1.heap.size, 1, none⟩ (.int .i64 sd) hb (new_cell w1 _ _ 1)
  have hB2 : Below w.heap.size w w2 := beyond (rB1 _) hb
  clear hb f1_0 f1_1 f1_2 f1_3 r1_0 r1_1 r1_2 r1_3 rB1 hB1
  have r2_0 : ∀ O, (w2.alloc O).cell? ⟨w.heap.size, 0, none⟩ = some (.int .i64 an) := fun O => kc _ _ (single _ _) f2_0
  have r2_1 : ∀ O, (w2.alloc O).cell? ⟨w.heap.size, 1, none⟩ = some (.int .i64 ad) := fun O => kc _ _ (single _ _) f2_1
  have r2_2 : ∀ O, (w2.alloc O).cell? ⟨w.heap.size + 1, 0, none⟩ = some (.int .i64 bn) := fun O => kc _ _ (single _ _) f2_2
  have r2_3 : ∀ O, (w2.alloc O).cell? ⟨w.heap.size + 1, 1, none⟩ = some (.int .i64 bd) := fun O => kc _ _ (single _ _) f2_3
  have r2_4 : ∀ O, (w2.alloc O).cell? ⟨w1.heap.size, 0, none⟩ = some (.int .i64 sn) := fun O => kc _ _ (single _ _) f2_4
  have r2_5 : ∀ O, (w2.alloc O).cell? ⟨w1.heap.size, 1, none⟩ = some (.int .i64 sd) := fun O => kc _ _ (single _ _) f2_5
  have rB2 : ∀ O, Below w.heap.size w (w2.alloc O) := fun O => beyond hB2 (single _ _)
  go_wp2_with fail
  refine (HM.out _).mono ?_
  rintro e w3 ⟨rfl, hb⟩
  have f3_0 := kc ⟨w.heap.size, 0, none⟩ (.int .i64 an) hb (r2_0 _)
  have f3_1 := kc ⟨w.heap.size, 1, none⟩ (.int .i64 ad) hb (r2_1 _)
  have f3_2 := kc ⟨w.heap.size + 1, 0, none⟩ (.int .i64 bn) hb (r2_2 _)
  have f3_3 := kc ⟨w.heap.size + 1, 1, none⟩ (.int .i64 bd) hb (r2_3 _)
  have f3_4 := kc ⟨w1.heap.size, 0, none⟩ (.int .i64 sn) hb (r2_4 _)
  have f3_5 := kc ⟨w1.heap.size, 1, none⟩ (.int .i64 sd) hb (r2_5 _)
  have f3_6 := kc ⟨w2.heap.size, 0, none⟩ (.int .i64 sn) hb (new_cell w2 _ _ 0)
  have f3_7 := kc ⟨w2.heap.size, 1, none⟩ (.int .i64 sd) hb (new_cell w2 _ _ 1)
  have hB3 : Below w.heap.size w w3 := beyond (rB2 _) hb
  clear hb f2_0 f2_1 f2_2 f2_3 f2_4 f2_5 r2_0 r2_1 r2_2 r2_3 r2_4 r2_5 rB2 hB2
  have r3_0 : ∀ O, (w3.alloc O).cell? ⟨w.heap.size, 0, none⟩ = some (.int .i64 an) := fun O => kc _ _ (single _ _) f3_0
  have r3_1 : ∀ O, (w3.alloc O).cell? ⟨w.heap.size, 1, none⟩ = some (.int .i64 ad) := fun O => kc _ _ (single _ _) f3_1
  have r3_2 : ∀ O, (w3.alloc O).cell? ⟨w.heap.size + 1, 0, none⟩ = some (.int .i64 bn) := fun O => kc _ _ (single _ _) f3_2
  have r3_3 : ∀ O, (w3.alloc O).cell? ⟨w.heap.size + 1, 1, none⟩ = some (.int .i64 bd) := fun O => kc _ _ (single _ _) f3_3
  have r3_4 : ∀ O, (w3.alloc O).cell? ⟨w1.heap.size, 0, none⟩ = some (.int .i64 sn) := fun O => kc _ _ (single _ _) f3_4
  have r3_5 : ∀ O, (w3.alloc O).cell? ⟨w1.heap.size, 1, none⟩ = some (.int .i64 sd) := fun O => kc _ _ (single _ _) f3_5
  have r3_6 : ∀ O, (w3.alloc O).cell? ⟨w2.heap.size, 0, none⟩ = some (.int .i64 sn) := fun O => kc _ _ (single _ _) f3_6
  have r3_7 : ∀ O, (w3.alloc O).cell? ⟨w2.heap.size, 1, none⟩ = some (.int .i64 sd) := fun O => kc _ _ (single _ _) f3_7
  have rB3 : ∀ O, Below w.heap.size w (w3.alloc O) := fun O => beyond hB3 (single _ _)
  go_wp2_with fail
  refine (HM2.out _).mono ?_
  rintro e w4 ⟨rfl, hb⟩
  have f4_0 := kc ⟨w.heap.size, 0, none⟩ (.int .i64 an) hb (r3_0 _)
  have f4_1 := kc ⟨w.heap.size, 1, none⟩ (.int .i64 ad) hb (r3_1 _)
  have f4_2 := kc ⟨w.heap.size + 1, 0, none⟩ (.int .i64 bn) hb (r3_2 _)
  have f4_3 := kc ⟨w.heap.size + 1, 1, none⟩ (.int .i64 bd) hb (r3_3 _)
  have f4_4 := kc ⟨w1.heap.size, 0, none⟩ (.int .i64 sn) hb (r3_4 _)
  have f4_5 := kc ⟨w1.heap.size, 1, none⟩ (.int .i64 sd) hb (r3_5 _)
  have f4_6 := kc ⟨w2.heap.size, 0, none⟩ (.int .i64 sn) hb (r3_6 _)
  have f4_7 := kc ⟨w2.heap.size, 1, none⟩ (.int .i64 sd) hb (r3_7 _)
  have f4_8 := kc ⟨w3.heap.size, 0, none⟩ (.int .i64 pn) hb (new_cell w3 _ _ 0)
  have f4_9 := kc ⟨w3.heap.size, 1, none⟩ (.int .i64 pd) hb (new_cell w3 _ _ 1)
  have hB4 : Below w.heap.size w w4 := beyond (rB3 _) hb
  clear hb f3_0 f3_1 f3_2 f3_3 f3_4 f3_5 f3_6 f3_7 r3_0 r3_1 r3_2 r3_3 r3_4 r3_5 r3_6 r3_7 rB3 hB3
  have r4_0 : ∀ O, (w4.alloc O).cell? ⟨w.heap.size, 0, none⟩ = some (.int .i64 an) := fun O => kc _ _ (single _ _) f4_0
  have r4_1 : ∀ O, (w4.alloc O).cell? ⟨w.heap.size, 1, none⟩ = some (.int .i64 ad) := fun O => kc _ _ (single _ _) f4_1
  have r4_2 : ∀ O, (w4.alloc O).cell? ⟨w.heap.size + 1, 0, none⟩ = some (.int .i64 bn) := fun O => kc _ _ (single _ _) f4_2
  have r4_3 : ∀ O, (w4.alloc O).cell? ⟨w.heap.size + 1, 1, none⟩ = some (.int .i64 bd) := fun O => kc _ _ (single _ _) f4_3
  have r4_4 : ∀ O, (w4.alloc O).cell? ⟨w1.heap.size, 0, none⟩ = some (.int .i64 sn) := fun O => kc _ _ (single _ _) f4_4
  have r4_5 : ∀ O, (w4.alloc O).cell? ⟨w1.heap.size, 1, none⟩ = some (.int .i64 sd) := fun O => kc _ _ (single _ _) f4_5
  have r4_6 : ∀ O, (w4.alloc O).cell? ⟨w2.heap.size, 0, none⟩ = some (.int .i64 sn) := fun O => kc _ _ (single _ _) f4_6
  have r4_7 : ∀ O, (w4.alloc O).cell? ⟨w2.heap.size, 1, none⟩ = some (.int .i64 sd) := fun O => kc _ _ (single _ _) f4_7
  have r4_8 : ∀ O, (w4.alloc O).cell? ⟨w3.heap.size, 0, none⟩ = some (.int .i64 pn) := fun O => kc _ _ (single _ _) f4_8
  have r4_9 : ∀ O, (w4.alloc O).cell? ⟨w3.heap.size, 1, none⟩ = some (.int .i64 pd) := fun O => kc _ _ (single _ _) f4_9
  have rB4 : ∀ O, Below w.heap.size w (w4.alloc O) := fun O => beyond hB4 (single _ _)
  go_wp2_with fail
  refine (live_any _ (pow_later ht (rB4 _))).mono ?_
  rintro e w5 ⟨rfl, hb⟩
  have f5_0 := kc ⟨w.heap.size, 0, none⟩ (.int .i64 an) hb (r4_0 _)
  have f5_1 := kc ⟨w.heap.size, 1, none⟩ (.int .i64 ad) hb (r4_1 _)
  have f5_2 := kc ⟨w.heap.size + 1, 0, none⟩ (.int .i64 bn) hb (r4_2 _)
  have f5_3 := kc ⟨w.heap.size + 1, 1, none⟩ (.int .i64 bd) hb (r4_3 _)
  have f5_4 := kc ⟨w1.heap.size, 0, none⟩ (.int .i64 sn) hb (r4_4 _)
  have f5_5 := kc ⟨w1.heap.size, 1, none⟩ (.int .i64 sd) hb (r4_5 _)
  have f5_6 := kc ⟨w2.heap.size, 0, none⟩ (.int .i64 sn) hb (r4_6 _)
  have f5_7 := kc ⟨w2.heap.size, 1, none⟩ (.int .i64 sd) hb (r4_7 _)
  have f5_8 := kc ⟨w3.heap.size, 0, none⟩ (.int .i64 pn) hb (r4_8 _)
  have f5_9 := kc ⟨w3.heap.size, 1, none⟩ (.int .i64 pd) hb (r4_9 _)
  have f5_10 := kc ⟨w4.heap.size, 0, none⟩ (.int .i64 pn) hb (new_cell w4 _ _ 0)
  have f5_11 := kc ⟨w4.heap.size, 1, none⟩ (.int .i64 pd) hb (new_cell w4 _ _ 1)
  have hB5 : Below w.heap.size w w5 := beyond (rB4 _) hb
  clear hb f4_0 f4_1 f4_2 f4_3 f4_4 f4_5 f4_6 f4_7 f4_8 f4_9 r4_0 r4_1 r4_2 r4_3 r4_4 r4_5 r4_6 r4_7 r4_8 r4_9 rB4 hB4
  go_wp2_with fail
  refine (HD.out _).mono ?_
  rintro e w6 ⟨rfl, hb⟩
  have f6_0 := kc ⟨w.heap.size, 0, none⟩ (.int .i64 an) hb f5_0
  have f6_1 := kc ⟨w.heap.size, 1, none⟩ (.int .i64 ad) hb f5_1
  have f6_2 := kc ⟨w.heap.size + 1, 0, none⟩ (.int .i64 bn) hb f5_2
  have f6_3 := kc ⟨w.heap.size + 1, 1, none⟩ (.int .i64 bd) hb f5_3
  have f6_4 := kc ⟨w1.heap.size, 0, none⟩ (.int .i64 sn) hb f5_4
  have f6_5 := kc ⟨w1.heap.size, 1, none⟩ (.int .i64 sd) hb f5_5
  have f6_6 := kc ⟨w2.heap.size, 0, none⟩ (.int .i64 sn) hb f5_6
  have f6_7 := kc ⟨w2.heap.size, 1, none⟩ (.int .i64 sd) hb f5_7
  have f6_8 := kc ⟨w3.heap.size, 0, none⟩ (.int .i64 pn) hb f5_8
  have f6_9 := kc ⟨w3.heap.size, 1, none⟩ (.int .i64 pd) hb f5_9
  have f6_10 := kc ⟨w4.heap.size, 0, none⟩ (.int .i64 pn) hb f5_10
  have f6_11 := kc ⟨w4.heap.size, 1, none⟩ (.int .i64 pd) hb f5_11
  have hB6 : Below w.heap.size w w6 := beyond (hB5) hb
  clear hb f5_0 f5_1 f5_2 f5_3 f5_4 f5_5 f5_6 f5_7 f5_8 f5_9 f5_10 f5_11 hB5
  have r6_0 : ∀ O, (w6.alloc O).cell? ⟨w.heap.size, 0, none⟩ = some (.int .i64 an) := fun O => kc _ _ (single _ _) f6_0
  have r6_1 : ∀ O, (w6.alloc O).cell? ⟨w.heap.size, 1, none⟩ = some (.int .i64 ad) := fun O => kc _ _ (single _ _) f6_1
  have r6_2 : ∀ O, (w6.alloc O).cell? ⟨w.heap.size + 1, 0, none⟩ = some (.int .i64 bn) := fun O => kc _ _ (single _ _) f6_2
  have r6_3 : ∀ O, (w6.alloc O).cell? ⟨w.heap.size + 1, 1, none⟩ = some (.int .i64 bd) := fun O => kc _ _ (single _ _) f6_3
  have r6_4 : ∀ O, (w6.alloc O).cell? ⟨w1.heap.size, 0, none⟩ = some (.int .i64 sn) := fun O => kc _ _ (single _ _) f6_4
  have r6_5 : ∀ O, (w6.alloc O).cell? ⟨w1.heap.size, 1, none⟩ = some (.int .i64 sd) := fun O => kc _ _ (single _ _) f6_5
  have r6_6 : ∀ O, (w6.alloc O).cell? ⟨w2.heap.size, 0, none⟩ = some (.int .i64 sn) := fun O => kc _ _ (single _ _) f6_6
  have r6_7 : ∀ O, (w6.alloc O).cell? ⟨w2.heap.size, 1, none⟩ = some (.int .i64 sd) := fun O => kc _ _ (single _ _) f6_7
  have r6_8 : ∀ O, (w6.alloc O).cell? ⟨w3.heap.size, 0, none⟩ = some (.int .i64 pn) := fun O => kc _ _ (single _ _) f6_8
  have r6_9 : ∀ O, (w6.alloc O).cell? ⟨w3.heap.size, 1, none⟩ = some (.int .i64 pd) := fun O => kc _ _ (single _ _) f6_9
  have r6_10 : ∀ O, (w6.alloc O).cell? ⟨w4.heap.size, 0, none⟩ = some (.int .i64 pn) := fun O => kc _ _ (single _ _) f6_10
  have r6_11 : ∀ O, (w6.alloc O).cell? ⟨w4.heap.size, 1, none⟩ = some (.int .i64 pd) := fun O => kc _ _ (single _ _) f6_11
  have rB6 : ∀ O, Below w.heap.size w (w6.alloc O) := fun O => beyond hB6 (single _ _)
  go_wp2_with fail
  go_ret
  exact ⟨rfl, rB6 _⟩
set_option maxRecDepth 100000 in
set_option maxHeartbeats 4000000 in
theorem turns_00 (an ad bd sn sd pn pd se pe bn : Int) (w : World) (ht : Pow w) (hse : ¬ se = 0) (hpe : ¬ pe = 0)
    (HA : Hid (CallsT 15 an ad bn bd (sn, sd, se))) (HA2 : Hid (CallsT 15 bn bd an ad (sn, sd, se)))
    (HM : Hid (CallsT 19 an ad bn bd (pn, pd, pe))) (HM2 : Hid (CallsT 19 bn bd an ad (pn, pd, pe))) :
    Calls Tryd.prog 5 #[rv an ad, rv bn bd] w fun e w' => e = .returned (.bool true) ∧ Below w.heap.size w w' := by
  go_enter Tryd.func5, Tryd.ntmps5
  go_wp2_with fail
  refine (HA.out _).mono ?_
  rintro e w1 ⟨rfl, hb⟩
  have f1_0 := kc ⟨w.heap.size, 0, none⟩ (.int .i64 an) hb (by first | assumption | simp [go_sem, *])
  have f1_1 := kc ⟨w.heap.size, 1, none⟩ (.int .i64 ad) hb (by first | assumption | simp [go_sem, *])
  have f1_2 := kc ⟨w.heap.size + 1, 0, none⟩ (.int .i64 bn) hb (by first | assumption | simp [go_sem, *])
  have f1_3 := kc ⟨w.heap.size + 1, 1, none⟩ (.int .i64 bd) hb (by first | assumption | simp [go_sem, *])
  have hB1 : Below w.heap.size w w1 := beyond (two w _ _) hb
  clear hb
  have r1_0 : ∀ O, (w1.alloc O).cell? ⟨w.heap.size, 0, none⟩ = some (.int .i64 an) := fun O => kc _ _ (single _ _) f1_0
  have r1_1 : ∀ O, (w1.alloc O).cell? ⟨w.heap.size, 1, none⟩ = some (.int .i64 ad) := fun O => kc _ _ (single _ _) f1_1
  have r1_2 : ∀ O, (w1.alloc O).cell? ⟨w.heap.size + 1, 0, none⟩ = some (.int .i64 bn) := fun O => kc _ _ (single _ _) f1_2
  have r1_3 : ∀ O, (w1.alloc O).cell? ⟨w.heap.size + 1, 1, none⟩ = some (.int .i64 bd) := fun O => kc _ _ (single _ _) f1_3
  have rB1 : ∀ O, Below w.heap.size w (w1.alloc O) := fun O => beyond hB1 (single _ _)
  go_wp2_with fail
  refine (HA2.out _).mono ?_
  rintro e w2 ⟨rfl, hb⟩
  have f2_0 := kc ⟨w.heap.size, 0, none⟩ (.int .i64 an) hb (r1_0 _)
  have f2_1 := kc ⟨w.heap.size, 1, none⟩ (.int .i64 ad) hb (r1_1 _)
  have f2_2 := kc ⟨w.heap.size + 1, 0, none⟩ (.int .i64 bn) hb (r1_2 _)
  have f2_3 := kc ⟨w.heap.size + 1, 1, none⟩ (.int .i64 bd) hb (r1_3 _)
  have f2_4 := kc ⟨w1.heap.size, 0, none⟩ (.int .i64 sn) hb (new_cell w1 _ _ 0)
  have f2_5 := kc ⟨w1.heap.size, 1, none⟩ (.int .i64 sd) hb (new_cell w1 _ _ 1)
  have hB2 : Below w.heap.size w w2 := beyond (rB1 _) hb
  clear hb f1_0 f1_1 f1_2 f1_3 r1_0 r1_1 r1_2 r1_3 rB1 hB1
  have r2_0 : ∀ O, (w2.alloc O).cell? ⟨w.heap.size, 0, none⟩ = some (.int .i64 an) := fun O => kc _ _ (single _ _) f2_0
  have r2_1 : ∀ O, (w2.alloc O).cell? ⟨w.heap.size, 1, none⟩ = some (.int .i64 ad) := fun O => kc _ _ (single _ _) f2_1
  have r2_2 : ∀ O, (w2.alloc O).cell? ⟨w.heap.size + 1, 0, none⟩ = some (.int .i64 bn) := fun O => kc _ _ (single _ _) f2_2
  have r2_3 : ∀ O, (w2.alloc O).cell? ⟨w.heap.size + 1, 1, none⟩ = some (.int .i64 bd) := fun O => kc _ _ (single _ _) f2_3
  have r2_4 : ∀ O, (w2.alloc O).cell? ⟨w1.heap.size, 0, none⟩ = some (.int .i64 sn) := fun O => kc _ _ (single _ _) f2_4
  have r2_5 : ∀ O, (w2.alloc O).cell? ⟨w1.heap.size, 1, none⟩ = some (.int .i64 sd) := fun O => kc _ _ (single _ _) f2_5
  have rB2 : ∀ O, Below w.heap.size w (w2.alloc O) := fun O => beyond hB2 (single _ _)
  go_wp2_with fail
  refine (HM.out _).mono ?_
  rintro e w3 ⟨rfl, hb⟩
  have f3_0 := kc ⟨w.heap.size, 0, none⟩ (.int .i64 an) hb (r2_0 _)
  have f3_1 := kc ⟨w.heap.size, 1, none⟩ (.int .i64 ad) hb (r2_1 _)
  have f3_2 := kc ⟨w.heap.size + 1, 0, none⟩ (.int .i64 bn) hb (r2_2 _)
  have f3_3 := kc ⟨w.heap.size + 1, 1, none⟩ (.int .i64 bd) hb (r2_3 _)
  have f3_4 := kc ⟨w1.heap.size, 0, none⟩ (.int .i64 sn) hb (r2_4 _)
  have f3_5 := kc ⟨w1.heap.size, 1, none⟩ (.int .i64 sd) hb (r2_5 _)
  have f3_6 := kc ⟨w2.heap.size, 0, none⟩ (.int .i64 sn) hb (new_cell w2 _ _ 0)
  have f3_7 := kc ⟨w2.heap.size, 1, none⟩ (.int .i64 sd) hb (new_cell w2 _ _ 1)
  have hB3 : Below w.heap.size w w3 := beyond (rB2 _) hb
  clear hb f2_0 f2_1 f2_2 f2_3 f2_4 f2_5 r2_0 r2_1 r2_2 r2_3 r2_4 r2_5 rB2 hB2
  have r3_0 : ∀ O, (w3.alloc O).cell? ⟨w.heap.size, 0, none⟩ = some (.int .i64 an) := fun O => kc _ _ (single _ _) f3_0
  have r3_1 : ∀ O, (w3.alloc O).cell? ⟨w.heap.size, 1, none⟩ = some (.int .i64 ad) := fun O => kc _ _ (single _ _) f3_1
  have r3_2 : ∀ O, (w3.alloc O).cell? ⟨w.heap.size + 1, 0, none⟩ = some (.int .i64 bn) := fun O => kc _ _ (single _ _) f3_2
  have r3_3 : ∀ O, (w3.alloc O).cell? ⟨w.heap.size + 1, 1, none⟩ = some (.int .i64 bd) := fun O => kc _ _ (single _ _) f3_3
  have r3_4 : ∀ O, (w3.alloc O).cell? ⟨w1.heap.size, 0, none⟩ = some (.int .i64 sn) := fun O => kc _ _ (single _ _) f3_4
  have r3_5 : ∀ O, (w3.alloc O).cell? ⟨w1.heap.size, 1, none⟩ = some (.int .i64 sd) := fun O => kc _ _ (single _ _) f3_5
  have r3_6 : ∀ O, (w3.alloc O).cell? ⟨w2.heap.size, 0, none⟩ = some (.int .i64 sn) := fun O => kc _ _ (single _ _) f3_6
  have r3_7 : ∀ O, (w3.alloc O).cell? ⟨w2.heap.size, 1, none⟩ = some (.int .i64 sd) := fun O => kc _ _ (single _ _) f3_7
  have rB3 : ∀ O, Below w.heap.size w (w3.alloc O) := fun O => beyond hB3 (single _ _)
  go_wp2_with fail
  refine (HM2.out _).mono ?_
  rintro e w4 ⟨rfl, hb⟩
  have f4_0 := kc ⟨w.heap.size, 0, none⟩ (.int .i64 an) hb (r3_0 _)
  have f4_1 := kc ⟨w.heap.size, 1, none⟩ (.int .i64 ad) hb (r3_1 _)
  have f4_2 := kc ⟨w.heap.size + 1, 0, none⟩ (.int .i64 bn) hb (r3_2 _)
  have f4_3 := kc ⟨w.heap.size + 1, 1, none⟩ (.int .i64 bd) hb (r3_3 _)
  have f4_4 := kc ⟨w1.heap.size, 0, none⟩ (.int .i64 sn) hb (r3_4 _)
  have f4_5 := kc ⟨w1.heap.size, 1, none⟩ (.int .i64 sd) hb (r3_5 _)
  have f4_6 := kc ⟨w2.heap.size, 0, none⟩ (.int .i64 sn) hb (r3_6 _)
  have f4_7 := kc ⟨w2.heap.size, 1, none⟩ (.int .i64 sd) hb (r3_7 _)
  have f4_8 := kc ⟨w3.heap.size, 0, none⟩ (.int .i64 pn) hb (new_cell w3 _ _ 0)
  have f4_9 := kc ⟨w3.heap.size, 1, none⟩ (.int .i64 pd) hb (new_cell w3 _ _ 1)
  have hB4 : Below w.heap.size w w4 := beyond (rB3 _) hb
  clear hb f3_0 f3_1 f3_2 f3_3 f3_4 f3_5 f3_6 f3_7 r3_0 r3_1 r3_2 r3_3 r3_4 r3_5 r3_6 r3_7 rB3 hB3
  have r4_0 : ∀ O, (w4.alloc O).cell? ⟨w.heap.size, 0, none⟩ = some (.int .i64 an) := fun O => kc _ _ (single _ _) f4_0
  have r4_1 : ∀ O, (w4.alloc O).cell? ⟨w.heap.size, 1, none⟩ = some (.int .i64 ad) := fun O => kc _ _ (single _ _) f4_1
  have r4_2 : ∀ O, (w4.alloc O).cell? ⟨w.heap.size + 1, 0, none⟩ = some (.int .i64 bn) := fun O => kc _ _ (single _ _) f4_2
  have r4_3 : ∀ O, (w4.alloc O).cell? ⟨w.heap.size + 1, 1, none⟩ = some (.int .i64 bd) := fun O => kc _ _ (single _ _) f4_3
  have r4_4 : ∀ O, (w4.alloc O).cell? ⟨w1.heap.size, 0, none⟩ = some (.int .i64 sn) := fun O => kc _ _ (single _ _) f4_4
  have r4_5 : ∀ O, (w4.alloc O).cell? ⟨w1.heap.size, 1, none⟩ = some (.int .i64 sd) := fun O => kc _ _ (single _ _) f4_5
  have r4_6 : ∀ O, (w4.alloc O).cell? ⟨w2.heap.size, 0, none⟩ = some (.int .i64 sn) := fun O => kc _ _ (single _ _) f4_6
  have r4_7 : ∀ O, (w4.alloc O).cell? ⟨w2.heap.size, 1, none⟩ = some (.int .i64 sd) := fun O => kc _ _ (single _ _) f4_7
  have r4_8 : ∀ O, (w4.alloc O).cell? ⟨w3.heap.size, 0, none⟩ = some (.int .i64 pn) := fun O => kc _ _ (single _ _) f4_8
  have r4_9 : ∀ O, (w4.alloc O).cell? ⟨w3.heap.size, 1, none⟩ = some (.int .i64 pd) := fun O => kc _ _ (single _ _) f4_9
  have rB4 : ∀ O, Below w.heap.size w (w4.alloc O) := fun O => beyond hB4 (single _ _)
  go_wp2_with fail
  refine (live_any _ (pow_later ht (rB4 _))).mono ?_
  rintro e w5 ⟨rfl, hb⟩
  have f5_0 := kc ⟨w.heap.size, 0, none⟩ (.int .i64 an) hb (r4_0 _)
  have f5_1 := kc ⟨w.heap.size, 1, none⟩ (.int .i64 ad) hb (r4_1 _)
  have f5_2 := kc ⟨w.heap.size + 1, 0, none⟩ (.int .i64 bn) hb (r4_2 _)
  have f5_3 := kc ⟨w.heap.size + 1, 1, none⟩ (.int .i64 bd) hb (r4_3 _)
  have f5_4 := kc ⟨w1.heap.size, 0, none⟩ (.int .i64 sn) hb (r4_4 _)
  have f5_5 := kc ⟨w1.heap.size, 1, none⟩ (.int .i64 sd) hb (r4_5 _)
  have f5_6 := kc ⟨w2.heap.size, 0, none⟩ (.int .i64 sn) hb (r4_6 _)
  have f5_7 := kc ⟨w2.heap.size, 1, none⟩ (.int .i64 sd) hb (r4_7 _)
  have f5_8 := kc ⟨w3.heap.size, 0, none⟩ (.int .i64 pn) hb (r4_8 _)
  have f5_9 := kc ⟨w3.heap.size, 1, none⟩ (.int .i64 pd) hb (r4_9 _)
  have f5_10 := kc ⟨w4.heap.size, 0, none⟩ (.int .i64 pn) hb (new_cell w4 _ _ 0)
  have f5_11 := kc ⟨w4.heap.size, 1, none⟩ (.int .i64 pd) hb (new_cell w4 _ _ 1)
  have hB5 : Below w.heap.size w w5 := beyond (rB4 _) hb
  clear hb f4_0 f4_1 f4_2 f4_3 f4_4 f4_5 f4_6 f4_7 f4_8 f4_9 r4_0 r4_1 r4_2 r4_3 r4_4 r4_5 r4_6 r4_7 r4_8 r4_9 rB4 hB4
  go_wp2_with fail
  go_ret
  exact ⟨rfl, hB5⟩
set_option maxRecDepth 100000 in
set_option maxHeartbeats 4000000 in
theorem turns_0z (an ad bd sn sd pn pd se : Int) (w : World) (ht : Pow w) (hse : ¬ se = 0)
    (HA : Hid (CallsT 15 an ad 0 bd (sn, sd, se))) (HA2 : Hid (CallsT 15 0 bd an ad (sn, sd, se)))
    (HM : Hid (CallsT 19 an ad 0 bd (pn, pd, 0))) (HM2 : Hid (CallsT 19 0 bd an ad (pn, pd, 0))) :
    Calls Tryd.prog 5 #[rv an ad, rv 0 bd] w fun e w' => e = .returned (.bool true) ∧ Below w.heap.size w w' := by
  go_enter Tryd.func5, Tryd.ntmps5
  go_wp2_with fail
  refine (HA.out _).mono ?_
  rintro e w1 ⟨rfl, hb⟩
  have f1_0 := kc ⟨w.heap.size, 0, none⟩ (.int .i64 an) hb (by first | assumption | simp [go_sem, *])
  have f1_1 := kc ⟨w.heap.size, 1, none⟩ (.int .i64 ad) hb (by first | assumption | simp [go_sem, *])
  have f1_2 := kc ⟨w.heap.size + 1, 0, none⟩ (.int .i64 0) hb (by first | assumption | simp [go_sem, *])
  have f1_3 := kc ⟨w.heap.size + 1, 1, none⟩ (.int .i64 bd) hb (by first | assumption | simp [go_sem, *])
  have hB1 : Below w.heap.size w w1 := beyond (two w _ _) hb
  clear hb
  have r1_0 : ∀ O, (w1.alloc O).cell? ⟨w.heap.size, 0, none⟩ = some (.int .i64 an) := fun O => kc _ _ (single _ _) f1_0
  have r1_1 : ∀ O, (w1.alloc O).cell? ⟨w.heap.size, 1, none⟩ = some (.int .i64 ad) := fun O => kc _ _ (single _ _) f1_1
  have r1_2 : ∀ O, (w1.alloc O).cell? ⟨w.heap.size + 1, 0, none⟩ = some (.int .i64 0) := fun O => kc _ _ (single _ _) f1_2
  have r1_3 : ∀ O, (w1.alloc O).cell? ⟨w.heap.size + 1, 1, none⟩ = some (.int .i64 bd) := fun O => kc _ _ (single _ _) f1_3
  have rB1 : ∀ O, Below w.heap.size w (w1.alloc O) := fun O => beyond hB1 (single _ _)
  go_wp2_with fail
  refine (HA2.out _).mono ?_
  rintro e w2 ⟨rfl, hb⟩
  have f2_0 := kc ⟨w.heap.size, 0, none⟩ (.int .i64 an) hb (r1_0 _)
  have f2_1 := kc ⟨w.heap.size, 1, none⟩ (.int .i64 ad) hb (r1_1 _)
  have f2_2 := kc ⟨w.heap.size + 1, 0, none⟩ (.int .i64 0) hb (r1_2 _)
  have f2_3 := kc ⟨w.heap.size + 1, 1, none⟩ (.int .i64 bd) hb (r1_3 _)
  have f2_4 := kc ⟨w1.heap.size, 0, none⟩ (.int .i64 sn) hb (new_cell w1 _ _ 0)
  have f2_5 := kc ⟨w1.heap.size, 1, none⟩ (.int .i64 sd) hb (new_cell w1 _ _ 1)
  have hB2 : Below w.heap.size w w2 := beyond (rB1 _) hb
  clear hb f1_0 f1_1 f1_2 f1_3 r1_0 r1_1 r1_2 r1_3 rB1 hB1
  have r2_0 : ∀ O, (w2.alloc O).cell? ⟨w.heap.size, 0, none⟩ = some (.int .i64 an) := fun O => kc _ _ (single _ _) f2_0
  have r2_1 : ∀ O, (w2.alloc O).cell? ⟨w.heap.size, 1, none⟩ = some (.int .i64 ad) := fun O => kc _ _ (single _ _) f2_1
  have r2_2 : ∀ O, (w2.alloc O).cell? ⟨w.heap.size + 1, 0, none⟩ = some (.int .i64 0) := fun O => kc _ _ (single _ _) f2_2
  have r2_3 : ∀ O, (w2.alloc O).cell? ⟨w.heap.size + 1, 1, none⟩ = some (.int .i64 bd) := fun O => kc _ _ (single _ _) f2_3
  have r2_4 : ∀ O, (w2.alloc O).cell? ⟨w1.heap.size, 0, none⟩ = some (.int .i64 sn) := fun O => kc _ _ (single _ _) f2_4
  have r2_5 : ∀ O, (w2.alloc O).cell? ⟨w1.heap.size, 1, none⟩ = some (.int .i64 sd) := fun O => kc _ _ (single _ _) f2_5
  have rB2 : ∀ O, Below w.heap.size w (w2.alloc O) := fun O => beyond hB2 (single _ _)
  go_wp2_with fail
  refine (HM.out _).mono ?_
  rintro e w3 ⟨rfl, hb⟩
  have f3_0 := kc ⟨w.heap.size, 0, none⟩ (.int .i64 an) hb (r2_0 _)
  have f3_1 := kc ⟨w.heap.size, 1, none⟩ (.int .i64 ad) hb (r2_1 _)
  have f3_2 := kc ⟨w.heap.size + 1, 0, none⟩ (.int .i64 0) hb (r2_2 _)
  have f3_3 := kc ⟨w.heap.size + 1, 1, none⟩ (.int .i64 bd) hb (r2_3 _)
  have f3_4 := kc ⟨w1.heap.size, 0, none⟩ (.int .i64 sn) hb (r2_4 _)
  have f3_5 := kc ⟨w1.heap.size, 1, none⟩ (.int .i64 sd) hb (r2_5 _)
  have f3_6 := kc ⟨w2.heap.size, 0, none⟩ (.int .i64 sn) hb (new_cell w2 _ _ 0)
  have f3_7 := kc ⟨w2.heap.size, 1, none⟩ (.int .i64 sd) hb (new_cell w2 _ _ 1)
  have hB3 : Below w.heap.size w w3 := beyond (rB2 _) hb
  clear hb f2_0 f2_1 f2_2 f2_3 f2_4 f2_5 r2_0 r2_1 r2_2 r2_3 r2_4 r2_5 rB2 hB2
  have r3_0 : ∀ O, (w3.alloc O).cell? ⟨w.heap.size, 0, none⟩ = some (.int .i64 an) := fun O => kc _ _ (single _ _) f3_0
  have r3_1 : ∀ O, (w3.alloc O).cell? ⟨w.heap.size, 1, none⟩ = some (.int .i64 ad) := fun O => kc _ _ (single _ _) f3_1
  have r3_2 : ∀ O, (w3.alloc O).cell? ⟨w.heap.size + 1, 0, none⟩ = some (.int .i64 0) := fun O => kc _ _ (single _ _) f3_2
  have r3_3 : ∀ O, (w3.alloc O).cell? ⟨w.heap.size + 1, 1, none⟩ = some (.int .i64 bd) := fun O => kc _ _ (single _ _) f3_3
  have r3_4 : ∀ O, (w3.alloc O).cell? ⟨w1.heap.size, 0, none⟩ = some (.int .i64 sn) := fun O => kc _ _ (single _ _) f3_4
  have r3_5 : ∀ O, (w3.alloc O).cell? ⟨w1.heap.size, 1, none⟩ = some (.int .i64 sd) := fun O => kc _ _ (single _ _) f3_5
  have r3_6 : ∀ O, (w3.alloc O).cell? ⟨w2.heap.size, 0, none⟩ = some (.int .i64 sn) := fun O => kc _ _ (single _ _) f3_6
  have r3_7 : ∀ O, (w3.alloc O).cell? ⟨w2.heap.size, 1, none⟩ = some (.int .i64 sd) := fun O => kc _ _ (single _ _) f3_7
  have rB3 : ∀ O, Below w.heap.size w (w3.alloc O) := fun O => beyond hB3 (single _ _)
  go_wp2_with fail
  refine (HM2.out _).mono ?_
  rintro e w4 ⟨rfl, hb⟩
  have f4_0 := kc ⟨w.heap.size, 0, none⟩ (.int .i64 an) hb (r3_0 _)
  have f4_1 := kc ⟨w.heap.size, 1, none⟩ (.int .i64 ad) hb (r3_1 _)
  have f4_2 := kc ⟨w.heap.size + 1, 0, none⟩ (.int .i64 0) hb (r3_2 _)
  have f4_3 := kc ⟨w.heap.size + 1, 1, none⟩ (.int .i64 bd) hb (r3_3 _)
  have f4_4 := kc ⟨w1.heap.size, 0, none⟩ (.int .i64 sn) hb (r3_4 _)
  have f4_5 := kc ⟨w1.heap.size, 1, none⟩ (.int .i64 sd) hb (r3_5 _)
  have f4_6 := kc ⟨w2.heap.size, 0, none⟩ (.int .i64 sn) hb (r3_6 _)
  have f4_7 := kc ⟨w2.heap.size, 1, none⟩ (.int .i64 sd) hb (r3_7 _)
  have f4_8 := kc ⟨w3.heap.size, 0, none⟩ (.int .i64 pn) hb (new_cell w3 _ _ 0)
  have f4_9 := kc ⟨w3.heap.size, 1, none⟩ (.int .i64 pd) hb (new_cell w3 _ _ 1)
  have hB4 : Below w.heap.size w w4 := beyond (rB3 _) hb
  clear hb f3_0 f3_1 f3_2 f3_3 f3_4 f3_5 f3_6 f3_7 r3_0 r3_1 r3_2 r3_3 r3_4 r3_5 r3_6 r3_7 rB3 hB3
  have r4_0 : ∀ O, (w4.alloc O).cell? ⟨w.heap.size, 0, none⟩ = some (.int .i64 an) := fun O => kc _ _ (single _ _) f4_0
  have r4_1 : ∀ O, (w4.alloc O).cell? ⟨w.heap.size, 1, none⟩ = some (.int .i64 ad) := fun O => kc _ _ (single _ _) f4_1
  have r4_2 : ∀ O, (w4.alloc O).cell? ⟨w.heap.size + 1, 0, none⟩ = some (.int .i64 0) := fun O => kc _ _ (single _ _) f4_2
  have r4_3 : ∀ O, (w4.alloc O).cell? ⟨w.heap.size + 1, 1, none⟩ = some (.int .i64 bd) := fun O => kc _ _ (single _ _) f4_3
  have r4_4 : ∀ O, (w4.alloc O).cell? ⟨w1.heap.size, 0, none⟩ = some (.int .i64 sn) := fun O => kc _ _ (single _ _) f4_4
  have r4_5 : ∀ O, (w4.alloc O).cell? ⟨w1.heap.size, 1, none⟩ = some (.int .i64 sd) := fun O => kc _ _ (single _ _) f4_5
  have r4_6 : ∀ O, (w4.alloc O).cell? ⟨w2.heap.size, 0, none⟩ = some (.int .i64 sn) := fun O => kc _ _ (single _ _) f4_6
  have r4_7 : ∀ O, (w4.alloc O).cell? ⟨w2.heap.size, 1, none⟩ = some (.int .i64 sd) := fun O => kc _ _ (single _ _) f4_7
  have r4_8 : ∀ O, (w4.alloc O).cell? ⟨w3.heap.size, 0, none⟩ = some (.int .i64 pn) := fun O => kc _ _ (single _ _) f4_8
  have r4_9 : ∀ O, (w4.alloc O).cell? ⟨w3.heap.size, 1, none⟩ = some (.int .i64 pd) := fun O => kc _ _ (single _ _) f4_9
  have rB4 : ∀ O, Below w.heap.size w (w4.alloc O) := fun O => beyond hB4 (single _ _)
  go_wp2_with fail
  refine (live_any _ (pow_later ht (rB4 _))).mono ?_
  rintro e w5 ⟨rfl, hb⟩
  have f5_0 := kc ⟨w.heap.size, 0, none⟩ (.int .i64 an) hb (r4_0 _)
  have f5_1 := kc ⟨w.heap.size, 1, none⟩ (.int .i64 ad) hb (r4_1 _)
  have f5_2 := kc ⟨w.heap.size + 1, 0, none⟩ (.int .i64 0) hb (r4_2 _)
  have f5_3 := kc ⟨w.heap.size + 1, 1, none⟩ (.int .i64 bd) hb (r4_3 _)
  have f5_4 := kc ⟨w1.heap.size, 0, none⟩ (.int .i64 sn) hb (r4_4 _)
  have f5_5 := kc ⟨w1.heap.size, 1, none⟩ (.int .i64 sd) hb (r4_5 _)
  have f5_6 := kc ⟨w2.heap.size, 0, none⟩ (.int .i64 sn) hb (r4_6 _)
  have f5_7 := kc ⟨w2.heap.size, 1, none⟩ (.int .i64 sd) hb (r4_7 _)
  have f5_8 := kc ⟨w3.heap.size, 0, none⟩ (.int .i64 pn) hb (r4_8 _)
  have f5_9 := kc ⟨w3.heap.size, 1, none⟩ (.int .i64 pd) hb (r4_9 _)
  have f5_10 := kc ⟨w4.heap.size, 0, none⟩ (.int .i64 pn) hb (new_cell w4 _ _ 0)
  have f5_11 := kc ⟨w4.heap.size, 1, none⟩ (.int .i64 pd) hb (new_cell w4 _ _ 1)
  have hB5 : Below w.heap.size w w5 := beyond (rB4 _) hb
  clear hb f4_0 f4_1 f4_2 f4_3 f4_4 f4_5 f4_6 f4_7 f4_8 f4_9 r4_0 r4_1 r4_2 r4_3 r4_4 r4_5 r4_6 r4_7 r4_8 r4_9 rB4 hB4
  go_wp2_with fail
  go_ret
  exact ⟨rfl, hB5⟩
theorem addT_comm (an ad bn bd : Int) : addT an ad bn bd = addT bn bd an ad := by
  unfold addT
  rw [Bool.and_comm, Int.add_comm, Int.mul_comm ad bd]
theorem mulT_comm (an ad bn bd : Int) : mulT an ad bn bd = mulT bn bd an ad := by
  unfold mulT
  rw [Bool.and_comm, Int.mul_comm an bn, Int.mul_comm ad bd]
theorem and_true {a b : Bool} (h : (a && b) = true) : a = true ∧ b = true := by simpa using h
theorem add_back (an ad bn bd : Int) (ha : I64 an) (hb : I64 ad) (h : (addT an ad bn bd).2.2 = 0) :
    subT (addT an ad bn bd).1 (addT an ad bn bd).2.1 bn bd = (an, ad, 0) ∧ I64 (addT an ad bn bd).1 ∧ I64 (addT an ad bn bd).2.1 := by
  unfold addT at *
  split at h
  · rename_i r
    obtain ⟨ra, rb⟩ := and_true r
    rw [if_pos r]
    obtain ⟨d0, -⟩ := right_iff.1 ra
    obtain ⟨e0, -⟩ := right_iff.1 rb
    have q := Int.mul_pos d0 e0
    obtain ⟨rs, e, x0, x1, y1⟩ := can_ok q h
    obtain ⟨y0, -⟩ := right_iff.1 rs
    refine ⟨?_, ⟨x0, x1⟩, by omega, y1⟩
    generalize (canR (an * bd + bn * ad) (ad * bd)).1 = sn at *
    generalize (canR (an * bd + bn * ad) (ad * bd)).2.1 = sd at *
    unfold subT
    rw [rs, rb]
    refine can_right (Int.mul_pos y0 e0) ra ha.1 ha.2 hb.2 ?_
    have e1 : sn * ad * bd = an * sd * bd + bn * sd * ad := by
      have : sn * ad * bd = sn * (ad * bd) := by rw [Int.mul_assoc]
      rw [this, e, Int.add_mul]
      congr 1 <;> ac_rfl
    rw [Int.sub_mul]
    have e2 : sn * bd * ad = sn * ad * bd := by ac_rfl
    have e3 : an * (sd * bd) = an * sd * bd := by ac_rfl
    have e4 : bn * sd * ad = bn * sd * ad := rfl
    omega
  · cases h
theorem mul_back (an ad bn bd : Int) (ha : I64 an) (hb : I64 ad) (z : ¬ bn = 0) (h : (mulT an ad bn bd).2.2 = 0) :
    divT (mulT an ad bn bd).1 (mulT an ad bn bd).2.1 bn bd = (an, ad, 0) := by
  unfold mulT at *
  split at h
  · rename_i r
    obtain ⟨ra, rb⟩ := and_true r
    rw [if_pos r]
    obtain ⟨d0, -⟩ := right_iff.1 ra
    obtain ⟨e0, -⟩ := right_iff.1 rb
    have q := Int.mul_pos d0 e0
    obtain ⟨rs, e, x0, x1, y1⟩ := can_ok q h
    obtain ⟨y0, -⟩ := right_iff.1 rs
    generalize (canR (an * bn) (ad * bd)).1 = sn at *
    generalize (canR (an * bn) (ad * bd)).2.1 = sd at *
    unfold divT
    rw [rs, rb]
    have p : 0 < sz bn := by unfold sz; split <;> omega
    have e5 : divT sn sd bn bd = canR (sn * sgn bd (decide (bn < 0))) (sd * sz bn) := by simp [divT, rs, rb, z]
    simp only [Bool.and_self, if_true, if_neg z]
    refine can_right (Int.mul_pos y0 p) ra ha.1 ha.2 hb.2 ?_
    have e1 : an * (sd * bn) = sn * bd * ad := by
      have : an * (sd * bn) = an * bn * sd := by ac_rfl
      rw [this, ← e]
      ac_rfl
    unfold sz sgn
    by_cases c : bn < 0
    · simp only [c, decide_true, if_true]
      rw [Int.mul_neg, Int.mul_neg, Int.mul_neg, Int.neg_mul, e1]
    · simp only [c, decide_false, if_false, Bool.false_eq_true]
      exact e1
  · cases h
theorem mul_i64 (an ad bn bd : Int) (h : (mulT an ad bn bd).2.2 = 0) : I64 (mulT an ad bn bd).1 ∧ I64 (mulT an ad bn bd).2.1 := by
  unfold mulT at *
  split at h
  · rename_i r
    obtain ⟨ra, rb⟩ := and_true r
    rw [if_pos r]
    obtain ⟨d0, -⟩ := right_iff.1 ra
    obtain ⟨e0, -⟩ := right_iff.1 rb
    obtain ⟨rs, e, x0, x1, y1⟩ := can_ok (Int.mul_pos d0 e0) h
    obtain ⟨y0, -⟩ := right_iff.1 rs
    exact ⟨⟨x0, x1⟩, by omega, y1⟩
  · cases h
theorem ratTurns.walk (an : Int) (han : (Lit.int .i64 an).wf = true) (ad : Int) (had : (Lit.int .i64 ad).wf = true) (bn : Int) (hbn : (Lit.int .i64 bn).wf = true) (bd : Int) (hbd : (Lit.int .i64 bd).wf = true) (w : World) (ht : Pow w) :
    Calls Tryd.prog 5 #[rv an ad, rv bn bd] w fun e w' => e = .returned (.bool true) ∧ Below w.heap.size w w' := by
  have ha := i64_wf han
  have hb := i64_wf had
  have hc := i64_wf hbn
  have hd := i64_wf hbd
  have A1 : CallsT 15 an ad bn bd (addT an ad bn bd) := fun w => radd_any an ad bn bd w ha hb hc hd
  have A2 : CallsT 15 bn bd an ad (addT an ad bn bd) := fun w => by rw [addT_comm]; exact radd_any bn bd an ad w hc hd ha hb
  have M1 : CallsT 19 an ad bn bd (mulT an ad bn bd) := fun w => rmul_any an ad bn bd w ha hb hc hd
  have M2 : CallsT 19 bn bd an ad (mulT an ad bn bd) := fun w => by rw [mulT_comm]; exact rmul_any bn bd an ad w hc hd ha hb
  have S1 : (addT an ad bn bd).2.2 = 0 → CallsT 17 (addT an ad bn bd).1 (addT an ad bn bd).2.1 bn bd (an, ad, 0) := fun h w => by
    obtain ⟨e, i1, i2⟩ := add_back an ad bn bd ha hb h
    have := rsub_any (addT an ad bn bd).1 (addT an ad bn bd).2.1 bn bd w i1 i2 hc hd
    rw [e] at this
    exact this
  have D1 : ¬ bn = 0 → (mulT an ad bn bd).2.2 = 0 → CallsT 21 (mulT an ad bn bd).1 (mulT an ad bn bd).2.1 bn bd (an, ad, 0) := fun z h w => by
    obtain ⟨i1, i2⟩ := mul_i64 an ad bn bd h
    have := rdiv_any (mulT an ad bn bd).1 (mulT an ad bn bd).2.1 bn bd w i1 i2 hc hd
    rw [mul_back an ad bn bd ha hb z h] at this
    exact this
  generalize addT an ad bn bd = s at *
  generalize mulT an ad bn bd = p at *
  obtain ⟨sn, sd, se⟩ := s
  obtain ⟨pn, pd, pe⟩ := p
  by_cases c : se = 0
  · subst c
    by_cases c2 : pe = 0
    · subst c2
      by_cases z : bn = 0
      · subst z
        exact turns_1z an ad bd sn sd pn pd w ht A1 A2 M1 M2 (S1 rfl)
      · exact turns_11 an ad bd sn sd pn pd bn w ht z A1 A2 M1 M2 (S1 rfl) (D1 z rfl)
    · exact turns_10 an ad bd sn sd pn pd pe bn w ht c2 A1 A2 M1 M2 (S1 rfl)
  · by_cases c2 : pe = 0
    · subst c2
      by_cases z : bn = 0
      · subst z
        exact turns_0z an ad bd sn sd pn pd se w ht c A1 A2 M1 M2
      · exact turns_01 an ad bd sn sd pn pd se bn w ht c z A1 A2 M1 M2 (D1 z rfl)
    · exact turns_00 an ad bd sn sd pn pd se pe bn w ht c c2 A1 A2 M1 M2
end Go.Proofs.YthklhiicnggonaaDoor
