/-
  The walk of the statement RatOrders.
-/
import Derived.Test.YthklhiicnggonaaDoorVk
namespace Go.Proofs.YthklhiicnggonaaDoor
open Go.RowKit Go.Shelf
set_option linter.unusedVariables false
abbrev AskX (n d : Int) (r : Bool) : Prop := ∀ w, Calls Tryd.prog 14 #[rv n d] w fun e w' => e = .returned (.bool r) ∧ Below w.heap.size w w'
abbrev AskC (an ad bn bd c : Int) : Prop := ∀ w, Calls Tryd.prog 23 #[rv an ad, rv bn bd] w fun e w' => e = .returned (.int .i64 c) ∧ Below w.heap.size w w'
theorem orders_not0 (an ad bn bd cn cd : Int) (w : World) (ht : Pow w) (HR0 : Hid (AskR an ad false)) (HX0 : Hid (AskX an ad false)) :
    Calls Tryd.prog 6 #[rv an ad, rv bn bd, rv cn cd] w fun e w' => e = .returned (.bool true) ∧ Below w.heap.size w w' := by
  go_enter Tryd.func6, Tryd.ntmps6
  go_wp2_with fail
  refine (HR0.out _).mono ?_
  rintro e w1 ⟨rfl, hb⟩
  have f1_0 := kc ⟨w.heap.size, 0, none⟩ (.int .i64 an) hb (by first | assumption | simp [go_sem, *])
  have f1_1 := kc ⟨w.heap.size, 1, none⟩ (.int .i64 ad) hb (by first | assumption | simp [go_sem, *])
  have f1_2 := kc ⟨w.heap.size + 1, 0, none⟩ (.int .i64 bn) hb (by first | assumption | simp [go_sem, *])
  have f1_3 := kc ⟨w.heap.size + 1, 1, none⟩ (.int .i64 bd) hb (by first | assumption | simp [go_sem, *])
  have f1_4 := kc ⟨w.heap.size + 1 + 1, 0, none⟩ (.int .i64 cn) hb (by first | assumption | simp [go_sem, *])
  have f1_5 := kc ⟨w.heap.size + 1 + 1, 1, none⟩ (.int .i64 cd) hb (by first | assumption | simp [go_sem, *])
  have hB1 : Below w.heap.size w w1 := beyond (three w _ _ _) hb
  clear hb
  go_wp2_with fail
  refine (live_any _ (pow_later ht (hB1))).mono ?_
  rintro e w2 ⟨rfl, hb⟩
  have f2_0 := kc ⟨w.heap.size, 0, none⟩ (.int .i64 an) hb f1_0
  have f2_1 := kc ⟨w.heap.size, 1, none⟩ (.int .i64 ad) hb f1_1
  have f2_2 := kc ⟨w.heap.size + 1, 0, none⟩ (.int .i64 bn) hb f1_2
  have f2_3 := kc ⟨w.heap.size + 1, 1, none⟩ (.int .i64 bd) hb f1_3
  have f2_4 := kc ⟨w.heap.size + 1 + 1, 0, none⟩ (.int .i64 cn) hb f1_4
  have f2_5 := kc ⟨w.heap.size + 1 + 1, 1, none⟩ (.int .i64 cd) hb f1_5
  have hB2 : Below w.heap.size w w2 := beyond (hB1) hb
  clear hb f1_0 f1_1 f1_2 f1_3 f1_4 f1_5 hB1
  go_wp2_with fail
  refine (HX0.out _).mono ?_
  rintro e w3 ⟨rfl, hb⟩
  have f3_0 := kc ⟨w.heap.size, 0, none⟩ (.int .i64 an) hb f2_0
  have f3_1 := kc ⟨w.heap.size, 1, none⟩ (.int .i64 ad) hb f2_1
  have f3_2 := kc ⟨w.heap.size + 1, 0, none⟩ (.int .i64 bn) hb f2_2
  have f3_3 := kc ⟨w.heap.size + 1, 1, none⟩ (.int .i64 bd) hb f2_3
  have f3_4 := kc ⟨w.heap.size + 1 + 1, 0, none⟩ (.int .i64 cn) hb f2_4
  have f3_5 := kc ⟨w.heap.size + 1 + 1, 1, none⟩ (.int .i64 cd) hb f2_5
  have hB3 : Below w.heap.size w w3 := beyond (hB2) hb
  clear hb f2_0 f2_1 f2_2 f2_3 f2_4 f2_5 hB2
  go_wp2_with fail
  go_ret
  exact ⟨rfl, hB3⟩
theorem orders_not1 (an ad bn bd cn cd : Int) (w : World) (ht : Pow w) (HR0 : Hid (AskR an ad true)) (HX0 : Hid (AskX an ad true)) (HR1 : Hid (AskR bn bd false)) (HX1 : Hid (AskX bn bd false)) :
    Calls Tryd.prog 6 #[rv an ad, rv bn bd, rv cn cd] w fun e w' => e = .returned (.bool true) ∧ Below w.heap.size w w' := by
  go_enter Tryd.func6, Tryd.ntmps6
  go_wp2_with fail
  refine (HR0.out _).mono ?_
  rintro e w1 ⟨rfl, hb⟩
  have f1_0 := kc ⟨w.heap.size, 0, none⟩ (.int .i64 an) hb (by first | assumption | simp [go_sem, *])
  have f1_1 := kc ⟨w.heap.size, 1, none⟩ (.int .i64 ad) hb (by first | assumption | simp [go_sem, *])
  have f1_2 := kc ⟨w.heap.size + 1, 0, none⟩ (.int .i64 bn) hb (by first | assumption | simp [go_sem, *])
  have f1_3 := kc ⟨w.heap.size + 1, 1, none⟩ (.int .i64 bd) hb (by first | assumption | simp [go_sem, *])
  have f1_4 := kc ⟨w.heap.size + 1 + 1, 0, none⟩ (.int .i64 cn) hb (by first | assumption | simp [go_sem, *])
  have f1_5 := kc ⟨w.heap.size + 1 + 1, 1, none⟩ (.int .i64 cd) hb (by first | assumption | simp [go_sem, *])
  have hB1 : Below w.heap.size w w1 := beyond (three w _ _ _) hb
  clear hb
  go_wp2_with fail
  refine (HR1.out _).mono ?_
  rintro e w2 ⟨rfl, hb⟩
  have f2_0 := kc ⟨w.heap.size, 0, none⟩ (.int .i64 an) hb f1_0
  have f2_1 := kc ⟨w.heap.size, 1, none⟩ (.int .i64 ad) hb f1_1
  have f2_2 := kc ⟨w.heap.size + 1, 0, none⟩ (.int .i64 bn) hb f1_2
  have f2_3 := kc ⟨w.heap.size + 1, 1, none⟩ (.int .i64 bd) hb f1_3
  have f2_4 := kc ⟨w.heap.size + 1 + 1, 0, none⟩ (.int .i64 cn) hb f1_4
  have f2_5 := kc ⟨w.heap.size + 1 + 1, 1, none⟩ (.int .i64 cd) hb f1_5
  have hB2 : Below w.heap.size w w2 := beyond (hB1) hb
  clear hb f1_0 f1_1 f1_2 f1_3 f1_4 f1_5 hB1
  go_wp2_with fail
  refine (live_any _ (pow_later ht (hB2))).mono ?_
  rintro e w3 ⟨rfl, hb⟩
  have f3_0 := kc ⟨w.heap.size, 0, none⟩ (.int .i64 an) hb f2_0
  have f3_1 := kc ⟨w.heap.size, 1, none⟩ (.int .i64 ad) hb f2_1
  have f3_2 := kc ⟨w.heap.size + 1, 0, none⟩ (.int .i64 bn) hb f2_2
  have f3_3 := kc ⟨w.heap.size + 1, 1, none⟩ (.int .i64 bd) hb f2_3
  have f3_4 := kc ⟨w.heap.size + 1 + 1, 0, none⟩ (.int .i64 cn) hb f2_4
  have f3_5 := kc ⟨w.heap.size + 1 + 1, 1, none⟩ (.int .i64 cd) hb f2_5
  have hB3 : Below w.heap.size w w3 := beyond (hB2) hb
  clear hb f2_0 f2_1 f2_2 f2_3 f2_4 f2_5 hB2
  go_wp2_with fail
  refine (HX0.out _).mono ?_
  rintro e w4 ⟨rfl, hb⟩
  have f4_0 := kc ⟨w.heap.size, 0, none⟩ (.int .i64 an) hb f3_0
  have f4_1 := kc ⟨w.heap.size, 1, none⟩ (.int .i64 ad) hb f3_1
  have f4_2 := kc ⟨w.heap.size + 1, 0, none⟩ (.int .i64 bn) hb f3_2
  have f4_3 := kc ⟨w.heap.size + 1, 1, none⟩ (.int .i64 bd) hb f3_3
  have f4_4 := kc ⟨w.heap.size + 1 + 1, 0, none⟩ (.int .i64 cn) hb f3_4
  have f4_5 := kc ⟨w.heap.size + 1 + 1, 1, none⟩ (.int .i64 cd) hb f3_5
  have hB4 : Below w.heap.size w w4 := beyond (hB3) hb
  clear hb f3_0 f3_1 f3_2 f3_3 f3_4 f3_5 hB3
  go_wp2_with fail
  refine (HX1.out _).mono ?_
  rintro e w5 ⟨rfl, hb⟩
  have f5_0 := kc ⟨w.heap.size, 0, none⟩ (.int .i64 an) hb f4_0
  have f5_1 := kc ⟨w.heap.size, 1, none⟩ (.int .i64 ad) hb f4_1
  have f5_2 := kc ⟨w.heap.size + 1, 0, none⟩ (.int .i64 bn) hb f4_2
  have f5_3 := kc ⟨w.heap.size + 1, 1, none⟩ (.int .i64 bd) hb f4_3
  have f5_4 := kc ⟨w.heap.size + 1 + 1, 0, none⟩ (.int .i64 cn) hb f4_4
  have f5_5 := kc ⟨w.heap.size + 1 + 1, 1, none⟩ (.int .i64 cd) hb f4_5
  have hB5 : Below w.heap.size w w5 := beyond (hB4) hb
  clear hb f4_0 f4_1 f4_2 f4_3 f4_4 f4_5 hB4
  go_wp2_with fail
  go_ret
  exact ⟨rfl, hB5⟩
theorem orders_not2 (an ad bn bd cn cd : Int) (w : World) (ht : Pow w) (HR0 : Hid (AskR an ad true)) (HX0 : Hid (AskX an ad true)) (HR1 : Hid (AskR bn bd true)) (HX1 : Hid (AskX bn bd true)) (HR2 : Hid (AskR cn cd false)) (HX2 : Hid (AskX cn cd false)) :
    Calls Tryd.prog 6 #[rv an ad, rv bn bd, rv cn cd] w fun e w' => e = .returned (.bool true) ∧ Below w.heap.size w w' := by
  go_enter Tryd.func6, Tryd.ntmps6
  go_wp2_with fail
  refine (HR0.out _).mono ?_
  rintro e w1 ⟨rfl, hb⟩
  have f1_0 := kc ⟨w.heap.size, 0, none⟩ (.int .i64 an) hb (by first | assumption | simp [go_sem, *])
  have f1_1 := kc ⟨w.heap.size, 1, none⟩ (.int .i64 ad) hb (by first | assumption | simp [go_sem, *])
  have f1_2 := kc ⟨w.heap.size + 1, 0, none⟩ (.int .i64 bn) hb (by first | assumption | simp [go_sem, *])
  have f1_3 := kc ⟨w.heap.size + 1, 1, none⟩ (.int .i64 bd) hb (by first | assumption | simp [go_sem, *])
  have f1_4 := kc ⟨w.heap.size + 1 + 1, 0, none⟩ (.int .i64 cn) hb (by first | assumption | simp [go_sem, *])
  have f1_5 := kc ⟨w.heap.size + 1 + 1, 1, none⟩ (.int .i64 cd) hb (by first | assumption | simp [go_sem, *])
  have hB1 : Below w.heap.size w w1 := beyond (three w _ _ _) hb
  clear hb
  go_wp2_with fail
  refine (HR1.out _).mono ?_
  rintro e w2 ⟨rfl, hb⟩
  have f2_0 := kc ⟨w.heap.size, 0, none⟩ (.int .i64 an) hb f1_0
  have f2_1 := kc ⟨w.heap.size, 1, none⟩ (.int .i64 ad) hb f1_1
  have f2_2 := kc ⟨w.heap.size + 1, 0, none⟩ (.int .i64 bn) hb f1_2
  have f2_3 := kc ⟨w.heap.size + 1, 1, none⟩ (.int .i64 bd) hb f1_3
  have f2_4 := kc ⟨w.heap.size + 1 + 1, 0, none⟩ (.int .i64 cn) hb f1_4
  have f2_5 := kc ⟨w.heap.size + 1 + 1, 1, none⟩ (.int .i64 cd) hb f1_5
  have hB2 : Below w.heap.size w w2 := beyond (hB1) hb
  clear hb f1_0 f1_1 f1_2 f1_3 f1_4 f1_5 hB1
  go_wp2_with fail
  refine (HR2.out _).mono ?_
  rintro e w3 ⟨rfl, hb⟩
  have f3_0 := kc ⟨w.heap.size, 0, none⟩ (.int .i64 an) hb f2_0
  have f3_1 := kc ⟨w.heap.size, 1, none⟩ (.int .i64 ad) hb f2_1
  have f3_2 := kc ⟨w.heap.size + 1, 0, none⟩ (.int .i64 bn) hb f2_2
  have f3_3 := kc ⟨w.heap.size + 1, 1, none⟩ (.int .i64 bd) hb f2_3
  have f3_4 := kc ⟨w.heap.size + 1 + 1, 0, none⟩ (.int .i64 cn) hb f2_4
  have f3_5 := kc ⟨w.heap.size + 1 + 1, 1, none⟩ (.int .i64 cd) hb f2_5
  have hB3 : Below w.heap.size w w3 := beyond (hB2) hb
  clear hb f2_0 f2_1 f2_2 f2_3 f2_4 f2_5 hB2
  go_wp2_with fail
  refine (live_any _ (pow_later ht (hB3))).mono ?_
  rintro e w4 ⟨rfl, hb⟩
  have f4_0 := kc ⟨w.heap.size, 0, none⟩ (.int .i64 an) hb f3_0
  have f4_1 := kc ⟨w.heap.size, 1, none⟩ (.int .i64 ad) hb f3_1
  have f4_2 := kc ⟨w.heap.size + 1, 0, none⟩ (.int .i64 bn) hb f3_2
  have f4_3 := kc ⟨w.heap.size + 1, 1, none⟩ (.int .i64 bd) hb f3_3
  have f4_4 := kc ⟨w.heap.size + 1 + 1, 0, none⟩ (.int .i64 cn) hb f3_4
  have f4_5 := kc ⟨w.heap.size + 1 + 1, 1, none⟩ (.int .i64 cd) hb f3_5
  have hB4 : Below w.heap.size w w4 := beyond (hB3) hb
  clear hb f3_0 f3_1 f3_2 f3_3 f3_4 f3_5 hB3
  go_wp2_with fail
  refine (HX0.out _).mono ?_
  rintro e w5 ⟨rfl, hb⟩
  have f5_0 := kc ⟨w.heap.size, 0, none⟩ (.int .i64 an) hb f4_0
  have f5_1 := kc ⟨w.heap.size, 1, none⟩ (.int .i64 ad) hb f4_1
  have f5_2 := kc ⟨w.heap.size + 1, 0, none⟩ (.int .i64 bn) hb f4_2
  have f5_3 := kc ⟨w.heap.size + 1, 1, none⟩ (.int .i64 bd) hb f4_3
  have f5_4 := kc ⟨w.heap.size + 1 + 1, 0, none⟩ (.int .i64 cn) hb f4_4
  have f5_5 := kc ⟨w.heap.size + 1 + 1, 1, none⟩ (.int .i64 cd) hb f4_5
  have hB5 : Below w.heap.size w w5 := beyond (hB4) hb
  clear hb f4_0 f4_1 f4_2 f4_3 f4_4 f4_5 hB4
  go_wp2_with fail
  refine (HX1.out _).mono ?_
  rintro e w6 ⟨rfl, hb⟩
  have f6_0 := kc ⟨w.heap.size, 0, none⟩ (.int .i64 an) hb f5_0
  have f6_1 := kc ⟨w.heap.size, 1, none⟩ (.int .i64 ad) hb f5_1
  have f6_2 := kc ⟨w.heap.size + 1, 0, none⟩ (.int .i64 bn) hb f5_2
  have f6_3 := kc ⟨w.heap.size + 1, 1, none⟩ (.int .i64 bd) hb f5_3
  have f6_4 := kc ⟨w.heap.size + 1 + 1, 0, none⟩ (.int .i64 cn) hb f5_4
  have f6_5 := kc ⟨w.heap.size + 1 + 1, 1, none⟩ (.int .i64 cd) hb f5_5
  have hB6 : Below w.heap.size w w6 := beyond (hB5) hb
  clear hb f5_0 f5_1 f5_2 f5_3 f5_4 f5_5 hB5
  go_wp2_with fail
  refine (HX2.out _).mono ?_
  rintro e w7 ⟨rfl, hb⟩
  have f7_0 := kc ⟨w.heap.size, 0, none⟩ (.int .i64 an) hb f6_0
  have f7_1 := kc ⟨w.heap.size, 1, none⟩ (.int .i64 ad) hb f6_1
  have f7_2 := kc ⟨w.heap.size + 1, 0, none⟩ (.int .i64 bn) hb f6_2
  have f7_3 := kc ⟨w.heap.size + 1, 1, none⟩ (.int .i64 bd) hb f6_3
  have f7_4 := kc ⟨w.heap.size + 1 + 1, 0, none⟩ (.int .i64 cn) hb f6_4
  have f7_5 := kc ⟨w.heap.size + 1 + 1, 1, none⟩ (.int .i64 cd) hb f6_5
  have hB7 : Below w.heap.size w w7 := beyond (hB6) hb
  clear hb f6_0 f6_1 f6_2 f6_3 f6_4 f6_5 hB6
  go_wp2_with fail
  go_ret
  exact ⟨rfl, hB7⟩
set_option maxRecDepth 100000 in
set_option maxHeartbeats 4000000 in
theorem orders_e0 (an ad cn cd dd z : Int) (w : World) (ht : Pow w)  (HR0 : Hid (AskR an ad true)) (HR1 : Hid (AskR an ad true)) (HR2 : Hid (AskR cn cd true))
    (HC0 : Hid (AskC an ad an ad 0)) (HC1 : Hid (AskC an ad cn cd 1)) (HC2 : Hid (AskC an ad cn cd z)) (HC3 : Hid (AskC an ad an ad 0))
    (HS : Hid (CallsT 17 an ad an ad (0, dd, 0))) :
    Calls Tryd.prog 6 #[rv an ad, rv an ad, rv cn cd] w fun e w' => e = .returned (.bool true) ∧ Below w.heap.size w w' := by
  go_enter Tryd.func6, Tryd.ntmps6
  go_wp2_with fail
  refine (HR0.out _).mono ?_
  rintro e w1 ⟨rfl, hb⟩
  have f1_0 := kc ⟨w.heap.size, 0, none⟩ (.int .i64 an) hb (by first | assumption | simp [go_sem, *])
  have f1_1 := kc ⟨w.heap.size, 1, none⟩ (.int .i64 ad) hb (by first | assumption | simp [go_sem, *])
  have f1_2 := kc ⟨w.heap.size + 1, 0, none⟩ (.int .i64 an) hb (by first | assumption | simp [go_sem, *])
  have f1_3 := kc ⟨w.heap.size + 1, 1, none⟩ (.int .i64 ad) hb (by first | assumption | simp [go_sem, *])
  have f1_4 := kc ⟨w.heap.size + 1 + 1, 0, none⟩ (.int .i64 cn) hb (by first | assumption | simp [go_sem, *])
  have f1_5 := kc ⟨w.heap.size + 1 + 1, 1, none⟩ (.int .i64 cd) hb (by first | assumption | simp [go_sem, *])
  have hB1 : Below w.heap.size w w1 := beyond (three w _ _ _) hb
  clear hb
  go_wp2_with fail
  refine (HR1.out _).mono ?_
  rintro e w2 ⟨rfl, hb⟩
  have f2_0 := kc ⟨w.heap.size, 0, none⟩ (.int .i64 an) hb f1_0
  have f2_1 := kc ⟨w.heap.size, 1, none⟩ (.int .i64 ad) hb f1_1
  have f2_2 := kc ⟨w.heap.size + 1, 0, none⟩ (.int .i64 an) hb f1_2
  have f2_3 := kc ⟨w.heap.size + 1, 1, none⟩ (.int .i64 ad) hb f1_3
  have f2_4 := kc ⟨w.heap.size + 1 + 1, 0, none⟩ (.int .i64 cn) hb f1_4
  have f2_5 := kc ⟨w.heap.size + 1 + 1, 1, none⟩ (.int .i64 cd) hb f1_5
  have hB2 : Below w.heap.size w w2 := beyond (hB1) hb
  clear hb f1_0 f1_1 f1_2 f1_3 f1_4 f1_5 hB1
  go_wp2_with fail
  refine (HR2.out _).mono ?_
  rintro e w3 ⟨rfl, hb⟩
  have f3_0 := kc ⟨w.heap.size, 0, none⟩ (.int .i64 an) hb f2_0
  have f3_1 := kc ⟨w.heap.size, 1, none⟩ (.int .i64 ad) hb f2_1
  have f3_2 := kc ⟨w.heap.size + 1, 0, none⟩ (.int .i64 an) hb f2_2
  have f3_3 := kc ⟨w.heap.size + 1, 1, none⟩ (.int .i64 ad) hb f2_3
  have f3_4 := kc ⟨w.heap.size + 1 + 1, 0, none⟩ (.int .i64 cn) hb f2_4
  have f3_5 := kc ⟨w.heap.size + 1 + 1, 1, none⟩ (.int .i64 cd) hb f2_5
  have hB3 : Below w.heap.size w w3 := beyond (hB2) hb
  clear hb f2_0 f2_1 f2_2 f2_3 f2_4 f2_5 hB2
  go_wp2_with fail
  refine (HC0.out _).mono ?_
  rintro e w4 ⟨rfl, hb⟩
  have f4_0 := kc ⟨w.heap.size, 0, none⟩ (.int .i64 an) hb f3_0
  have f4_1 := kc ⟨w.heap.size, 1, none⟩ (.int .i64 ad) hb f3_1
  have f4_2 := kc ⟨w.heap.size + 1, 0, none⟩ (.int .i64 an) hb f3_2
  have f4_3 := kc ⟨w.heap.size + 1, 1, none⟩ (.int .i64 ad) hb f3_3
  have f4_4 := kc ⟨w.heap.size + 1 + 1, 0, none⟩ (.int .i64 cn) hb f3_4
  have f4_5 := kc ⟨w.heap.size + 1 + 1, 1, none⟩ (.int .i64 cd) hb f3_5
  have hB4 : Below w.heap.size w w4 := beyond (hB3) hb
  clear hb f3_0 f3_1 f3_2 f3_3 f3_4 f3_5 hB3
  go_wp2_with fail
  refine (HC1.out _).mono ?_
  rintro e w5 ⟨rfl, hb⟩
  have f5_0 := kc ⟨w.heap.size, 0, none⟩ (.int .i64 an) hb f4_0
  have f5_1 := kc ⟨w.heap.size, 1, none⟩ (.int .i64 ad) hb f4_1
  have f5_2 := kc ⟨w.heap.size + 1, 0, none⟩ (.int .i64 an) hb f4_2
  have f5_3 := kc ⟨w.heap.size + 1, 1, none⟩ (.int .i64 ad) hb f4_3
  have f5_4 := kc ⟨w.heap.size + 1 + 1, 0, none⟩ (.int .i64 cn) hb f4_4
  have f5_5 := kc ⟨w.heap.size + 1 + 1, 1, none⟩ (.int .i64 cd) hb f4_5
  have hB5 : Below w.heap.size w w5 := beyond (hB4) hb
  clear hb f4_0 f4_1 f4_2 f4_3 f4_4 f4_5 hB4
  go_wp2_with fail
  refine (HC2.out _).mono ?_
  rintro e w6 ⟨rfl, hb⟩
  have f6_0 := kc ⟨w.heap.size, 0, none⟩ (.int .i64 an) hb f5_0
  have f6_1 := kc ⟨w.heap.size, 1, none⟩ (.int .i64 ad) hb f5_1
  have f6_2 := kc ⟨w.heap.size + 1, 0, none⟩ (.int .i64 an) hb f5_2
  have f6_3 := kc ⟨w.heap.size + 1, 1, none⟩ (.int .i64 ad) hb f5_3
  have f6_4 := kc ⟨w.heap.size + 1 + 1, 0, none⟩ (.int .i64 cn) hb f5_4
  have f6_5 := kc ⟨w.heap.size + 1 + 1, 1, none⟩ (.int .i64 cd) hb f5_5
  have hB6 : Below w.heap.size w w6 := beyond (hB5) hb
  clear hb f5_0 f5_1 f5_2 f5_3 f5_4 f5_5 hB5
  go_wp2_with fail
  refine (HS.out _).mono ?_
  rintro e w7 ⟨rfl, hb⟩
  have f7_0 := kc ⟨w.heap.size, 0, none⟩ (.int .i64 an) hb f6_0
  have f7_1 := kc ⟨w.heap.size, 1, none⟩ (.int .i64 ad) hb f6_1
  have f7_2 := kc ⟨w.heap.size + 1, 0, none⟩ (.int .i64 an) hb f6_2
  have f7_3 := kc ⟨w.heap.size + 1, 1, none⟩ (.int .i64 ad) hb f6_3
  have f7_4 := kc ⟨w.heap.size + 1 + 1, 0, none⟩ (.int .i64 cn) hb f6_4
  have f7_5 := kc ⟨w.heap.size + 1 + 1, 1, none⟩ (.int .i64 cd) hb f6_5
  have hB7 : Below w.heap.size w w7 := beyond (hB6) hb
  clear hb f6_0 f6_1 f6_2 f6_3 f6_4 f6_5 hB6
  have r7_0 : ∀ O, (w7.alloc O).cell? ⟨w.heap.size, 0, none⟩ = some (.int .i64 an) := fun O => kc _ _ (single _ _) f7_0
  have r7_1 : ∀ O, (w7.alloc O).cell? ⟨w.heap.size, 1, none⟩ = some (.int .i64 ad) := fun O => kc _ _ (single _ _) f7_1
  have r7_2 : ∀ O, (w7.alloc O).cell? ⟨w.heap.size + 1, 0, none⟩ = some (.int .i64 an) := fun O => kc _ _ (single _ _) f7_2
  have r7_3 : ∀ O, (w7.alloc O).cell? ⟨w.heap.size + 1, 1, none⟩ = some (.int .i64 ad) := fun O => kc _ _ (single _ _) f7_3
  have r7_4 : ∀ O, (w7.alloc O).cell? ⟨w.heap.size + 1 + 1, 0, none⟩ = some (.int .i64 cn) := fun O => kc _ _ (single _ _) f7_4
  have r7_5 : ∀ O, (w7.alloc O).cell? ⟨w.heap.size + 1 + 1, 1, none⟩ = some (.int .i64 cd) := fun O => kc _ _ (single _ _) f7_5
  have rB7 : ∀ O, Below w.heap.size w (w7.alloc O) := fun O => beyond hB7 (single _ _)
  go_wp2_with fail
  refine (live_any _ (pow_later ht (rB7 _))).mono ?_
  rintro e w8 ⟨rfl, hb⟩
  have f8_0 := kc ⟨w.heap.size, 0, none⟩ (.int .i64 an) hb (r7_0 _)
  have f8_1 := kc ⟨w.heap.size, 1, none⟩ (.int .i64 ad) hb (r7_1 _)
  have f8_2 := kc ⟨w.heap.size + 1, 0, none⟩ (.int .i64 an) hb (r7_2 _)
  have f8_3 := kc ⟨w.heap.size + 1, 1, none⟩ (.int .i64 ad) hb (r7_3 _)
  have f8_4 := kc ⟨w.heap.size + 1 + 1, 0, none⟩ (.int .i64 cn) hb (r7_4 _)
  have f8_5 := kc ⟨w.heap.size + 1 + 1, 1, none⟩ (.int .i64 cd) hb (r7_5 _)
  have f8_6 := kc ⟨w7.heap.size, 0, none⟩ (.int .i64 0) hb (new_cell w7 _ _ 0)
  have f8_7 := kc ⟨w7.heap.size, 1, none⟩ (.int .i64 dd) hb (new_cell w7 _ _ 1)
  have hB8 : Below w.heap.size w w8 := beyond (rB7 _) hb
  clear hb f7_0 f7_1 f7_2 f7_3 f7_4 f7_5 r7_0 r7_1 r7_2 r7_3 r7_4 r7_5 rB7 hB7
  go_wp2_with fail
  refine (HC3.out _).mono ?_
  rintro e w9 ⟨rfl, hb⟩
  have f9_0 := kc ⟨w.heap.size, 0, none⟩ (.int .i64 an) hb f8_0
  have f9_1 := kc ⟨w.heap.size, 1, none⟩ (.int .i64 ad) hb f8_1
  have f9_2 := kc ⟨w.heap.size + 1, 0, none⟩ (.int .i64 an) hb f8_2
  have f9_3 := kc ⟨w.heap.size + 1, 1, none⟩ (.int .i64 ad) hb f8_3
  have f9_4 := kc ⟨w.heap.size + 1 + 1, 0, none⟩ (.int .i64 cn) hb f8_4
  have f9_5 := kc ⟨w.heap.size + 1 + 1, 1, none⟩ (.int .i64 cd) hb f8_5
  have f9_6 := kc ⟨w7.heap.size, 0, none⟩ (.int .i64 0) hb f8_6
  have f9_7 := kc ⟨w7.heap.size, 1, none⟩ (.int .i64 dd) hb f8_7
  have hB9 : Below w.heap.size w w9 := beyond (hB8) hb
  clear hb f8_0 f8_1 f8_2 f8_3 f8_4 f8_5 f8_6 f8_7 hB8
  go_wp2_with fail
  go_ret
  exact ⟨rfl, hB9⟩
set_option maxRecDepth 100000 in
set_option maxHeartbeats 4000000 in
theorem orders_e1 (an ad cn cd dd : Int) (w : World) (ht : Pow w)  (HR0 : Hid (AskR an ad true)) (HR1 : Hid (AskR an ad true)) (HR2 : Hid (AskR cn cd true))
    (HC0 : Hid (AskC an ad an ad 0)) (HC1 : Hid (AskC an ad cn cd 0)) (HC2 : Hid (AskC an ad cn cd 0)) (HC3 : Hid (AskC an ad an ad 0))
    (HS : Hid (CallsT 17 an ad an ad (0, dd, 0))) :
    Calls Tryd.prog 6 #[rv an ad, rv an ad, rv cn cd] w fun e w' => e = .returned (.bool true) ∧ Below w.heap.size w w' := by
  go_enter Tryd.func6, Tryd.ntmps6
  go_wp2_with fail
  refine (HR0.out _).mono ?_
  rintro e w1 ⟨rfl, hb⟩
  have f1_0 := kc ⟨w.heap.size, 0, none⟩ (.int .i64 an) hb (by first | assumption | simp [go_sem, *])
  have f1_1 := kc ⟨w.heap.size, 1, none⟩ (.int .i64 ad) hb (by first | assumption | simp [go_sem, *])
  have f1_2 := kc ⟨w.heap.size + 1, 0, none⟩ (.int .i64 an) hb (by first | assumption | simp [go_sem, *])
  have f1_3 := kc ⟨w.heap.size + 1, 1, none⟩ (.int .i64 ad) hb (by first | assumption | simp [go_sem, *])
  have f1_4 := kc ⟨w.heap.size + 1 + 1, 0, none⟩ (.int .i64 cn) hb (by first | assumption | simp [go_sem, *])
  have f1_5 := kc ⟨w.heap.size + 1 + 1, 1, none⟩ (.int .i64 cd) hb (by first | assumption | simp [go_sem, *])
  have hB1 : Below w.heap.size w w1 := beyond (three w _ _ _) hb
  clear hb
  go_wp2_with fail
  refine (HR1.out _).mono ?_
  rintro e w2 ⟨rfl, hb⟩
  have f2_0 := kc ⟨w.heap.size, 0, none⟩ (.int .i64 an) hb f1_0
  have f2_1 := kc ⟨w.heap.size, 1, none⟩ (.int .i64 ad) hb f1_1
  have f2_2 := kc ⟨w.heap.size + 1, 0, none⟩ (.int .i64 an) hb f1_2
  have f2_3 := kc ⟨w.heap.size + 1, 1, none⟩ (.int .i64 ad) hb f1_3
  have f2_4 := kc ⟨w.heap.size + 1 + 1, 0, none⟩ (.int .i64 cn) hb f1_4
  have f2_5 := kc ⟨w.heap.size + 1 + 1, 1, none⟩ (.int .i64 cd) hb f1_5
  have hB2 : Below w.heap.size w w2 := beyond (hB1) hb
  clear hb f1_0 f1_1 f1_2 f1_3 f1_4 f1_5 hB1
  go_wp2_with fail
  refine (HR2.out _).mono ?_
  rintro e w3 ⟨rfl, hb⟩
  have f3_0 := kc ⟨w.heap.size, 0, none⟩ (.int .i64 an) hb f2_0
  have f3_1 := kc ⟨w.heap.size, 1, none⟩ (.int .i64 ad) hb f2_1
  have f3_2 := kc ⟨w.heap.size + 1, 0, none⟩ (.int .i64 an) hb f2_2
  have f3_3 := kc ⟨w.heap.size + 1, 1, none⟩ (.int .i64 ad) hb f2_3
  have f3_4 := kc ⟨w.heap.size + 1 + 1, 0, none⟩ (.int .i64 cn) hb f2_4
  have f3_5 := kc ⟨w.heap.size + 1 + 1, 1, none⟩ (.int .i64 cd) hb f2_5
  have hB3 : Below w.heap.size w w3 := beyond (hB2) hb
  clear hb f2_0 f2_1 f2_2 f2_3 f2_4 f2_5 hB2
  go_wp2_with fail
  refine (HC0.out _).mono ?_
  rintro e w4 ⟨rfl, hb⟩
  have f4_0 := kc ⟨w.heap.size, 0, none⟩ (.int .i64 an) hb f3_0
  have f4_1 := kc ⟨w.heap.size, 1, none⟩ (.int .i64 ad) hb f3_1
  have f4_2 := kc ⟨w.heap.size + 1, 0, none⟩ (.int .i64 an) hb f3_2
  have f4_3 := kc ⟨w.heap.size + 1, 1, none⟩ (.int .i64 ad) hb f3_3
  have f4_4 := kc ⟨w.heap.size + 1 + 1, 0, none⟩ (.int .i64 cn) hb f3_4
  have f4_5 := kc ⟨w.heap.size + 1 + 1, 1, none⟩ (.int .i64 cd) hb f3_5
  have hB4 : Below w.heap.size w w4 := beyond (hB3) hb
  clear hb f3_0 f3_1 f3_2 f3_3 f3_4 f3_5 hB3
  go_wp2_with fail
  refine (HC1.out _).mono ?_
  rintro e w5 ⟨rfl, hb⟩
  have f5_0 := kc ⟨w.heap.size, 0, none⟩ (.int .i64 an) hb f4_0
  have f5_1 := kc ⟨w.heap.size, 1, none⟩ (.int .i64 ad) hb f4_1
  have f5_2 := kc ⟨w.heap.size + 1, 0, none⟩ (.int .i64 an) hb f4_2
  have f5_3 := kc ⟨w.heap.size + 1, 1, none⟩ (.int .i64 ad) hb f4_3
  have f5_4 := kc ⟨w.heap.size + 1 + 1, 0, none⟩ (.int .i64 cn) hb f4_4
  have f5_5 := kc ⟨w.heap.size + 1 + 1, 1, none⟩ (.int .i64 cd) hb f4_5
  have hB5 : Below w.heap.size w w5 := beyond (hB4) hb
  clear hb f4_0 f4_1 f4_2 f4_3 f4_4 f4_5 hB4
  go_wp2_with fail
  refine (HC2.out _).mono ?_
  rintro e w6 ⟨rfl, hb⟩
  have f6_0 := kc ⟨w.heap.size, 0, none⟩ (.int .i64 an) hb f5_0
  have f6_1 := kc ⟨w.heap.size, 1, none⟩ (.int .i64 ad) hb f5_1
  have f6_2 := kc ⟨w.heap.size + 1, 0, none⟩ (.int .i64 an) hb f5_2
  have f6_3 := kc ⟨w.heap.size + 1, 1, none⟩ (.int .i64 ad) hb f5_3
  have f6_4 := kc ⟨w.heap.size + 1 + 1, 0, none⟩ (.int .i64 cn) hb f5_4
  have f6_5 := kc ⟨w.heap.size + 1 + 1, 1, none⟩ (.int .i64 cd) hb f5_5
  have hB6 : Below w.heap.size w w6 := beyond (hB5) hb
  clear hb f5_0 f5_1 f5_2 f5_3 f5_4 f5_5 hB5
  go_wp2_with fail
  refine (HS.out _).mono ?_
  rintro e w7 ⟨rfl, hb⟩
  have f7_0 := kc ⟨w.heap.size, 0, none⟩ (.int .i64 an) hb f6_0
  have f7_1 := kc ⟨w.heap.size, 1, none⟩ (.int .i64 ad) hb f6_1
  have f7_2 := kc ⟨w.heap.size + 1, 0, none⟩ (.int .i64 an) hb f6_2
  have f7_3 := kc ⟨w.heap.size + 1, 1, none⟩ (.int .i64 ad) hb f6_3
  have f7_4 := kc ⟨w.heap.size + 1 + 1, 0, none⟩ (.int .i64 cn) hb f6_4
  have f7_5 := kc ⟨w.heap.size + 1 + 1, 1, none⟩ (.int .i64 cd) hb f6_5
  have hB7 : Below w.heap.size w w7 := beyond (hB6) hb
  clear hb f6_0 f6_1 f6_2 f6_3 f6_4 f6_5 hB6
  have r7_0 : ∀ O, (w7.alloc O).cell? ⟨w.heap.size, 0, none⟩ = some (.int .i64 an) := fun O => kc _ _ (single _ _) f7_0
  have r7_1 : ∀ O, (w7.alloc O).cell? ⟨w.heap.size, 1, none⟩ = some (.int .i64 ad) := fun O => kc _ _ (single _ _) f7_1
  have r7_2 : ∀ O, (w7.alloc O).cell? ⟨w.heap.size + 1, 0, none⟩ = some (.int .i64 an) := fun O => kc _ _ (single _ _) f7_2
  have r7_3 : ∀ O, (w7.alloc O).cell? ⟨w.heap.size + 1, 1, none⟩ = some (.int .i64 ad) := fun O => kc _ _ (single _ _) f7_3
  have r7_4 : ∀ O, (w7.alloc O).cell? ⟨w.heap.size + 1 + 1, 0, none⟩ = some (.int .i64 cn) := fun O => kc _ _ (single _ _) f7_4
  have r7_5 : ∀ O, (w7.alloc O).cell? ⟨w.heap.size + 1 + 1, 1, none⟩ = some (.int .i64 cd) := fun O => kc _ _ (single _ _) f7_5
  have rB7 : ∀ O, Below w.heap.size w (w7.alloc O) := fun O => beyond hB7 (single _ _)
  go_wp2_with fail
  refine (live_any _ (pow_later ht (rB7 _))).mono ?_
  rintro e w8 ⟨rfl, hb⟩
  have f8_0 := kc ⟨w.heap.size, 0, none⟩ (.int .i64 an) hb (r7_0 _)
  have f8_1 := kc ⟨w.heap.size, 1, none⟩ (.int .i64 ad) hb (r7_1 _)
  have f8_2 := kc ⟨w.heap.size + 1, 0, none⟩ (.int .i64 an) hb (r7_2 _)
  have f8_3 := kc ⟨w.heap.size + 1, 1, none⟩ (.int .i64 ad) hb (r7_3 _)
  have f8_4 := kc ⟨w.heap.size + 1 + 1, 0, none⟩ (.int .i64 cn) hb (r7_4 _)
  have f8_5 := kc ⟨w.heap.size + 1 + 1, 1, none⟩ (.int .i64 cd) hb (r7_5 _)
  have f8_6 := kc ⟨w7.heap.size, 0, none⟩ (.int .i64 0) hb (new_cell w7 _ _ 0)
  have f8_7 := kc ⟨w7.heap.size, 1, none⟩ (.int .i64 dd) hb (new_cell w7 _ _ 1)
  have hB8 : Below w.heap.size w w8 := beyond (rB7 _) hb
  clear hb f7_0 f7_1 f7_2 f7_3 f7_4 f7_5 r7_0 r7_1 r7_2 r7_3 r7_4 r7_5 rB7 hB7
  go_wp2_with fail
  refine (HC3.out _).mono ?_
  rintro e w9 ⟨rfl, hb⟩
  have f9_0 := kc ⟨w.heap.size, 0, none⟩ (.int .i64 an) hb f8_0
  have f9_1 := kc ⟨w.heap.size, 1, none⟩ (.int .i64 ad) hb f8_1
  have f9_2 := kc ⟨w.heap.size + 1, 0, none⟩ (.int .i64 an) hb f8_2
  have f9_3 := kc ⟨w.heap.size + 1, 1, none⟩ (.int .i64 ad) hb f8_3
  have f9_4 := kc ⟨w.heap.size + 1 + 1, 0, none⟩ (.int .i64 cn) hb f8_4
  have f9_5 := kc ⟨w.heap.size + 1 + 1, 1, none⟩ (.int .i64 cd) hb f8_5
  have f9_6 := kc ⟨w7.heap.size, 0, none⟩ (.int .i64 0) hb f8_6
  have f9_7 := kc ⟨w7.heap.size, 1, none⟩ (.int .i64 dd) hb f8_7
  have hB9 : Below w.heap.size w w9 := beyond (hB8) hb
  clear hb f8_0 f8_1 f8_2 f8_3 f8_4 f8_5 f8_6 f8_7 hB8
  go_wp2_with fail
  go_ret
  exact ⟨rfl, hB9⟩
set_option maxRecDepth 100000 in
set_option maxHeartbeats 4000000 in
theorem orders_e2 (an ad cn cd dd : Int) (w : World) (ht : Pow w)  (HR0 : Hid (AskR an ad true)) (HR1 : Hid (AskR an ad true)) (HR2 : Hid (AskR cn cd true))
    (HC0 : Hid (AskC an ad an ad 0)) (HC1 : Hid (AskC an ad cn cd (-1))) (HC2 : Hid (AskC an ad cn cd (-1))) (HC3 : Hid (AskC an ad an ad 0))
    (HS : Hid (CallsT 17 an ad an ad (0, dd, 0))) :
    Calls Tryd.prog 6 #[rv an ad, rv an ad, rv cn cd] w fun e w' => e = .returned (.bool true) ∧ Below w.heap.size w w' := by
  go_enter Tryd.func6, Tryd.ntmps6
  go_wp2_with fail
  refine (HR0.out _).mono ?_
  rintro e w1 ⟨rfl, hb⟩
  have f1_0 := kc ⟨w.heap.size, 0, none⟩ (.int .i64 an) hb (by first | assumption | simp [go_sem, *])
  have f1_1 := kc ⟨w.heap.size, 1, none⟩ (.int .i64 ad) hb (by first | assumption | simp [go_sem, *])
  have f1_2 := kc ⟨w.heap.size + 1, 0, none⟩ (.int .i64 an) hb (by first | assumption | simp [go_sem, *])
  have f1_3 := kc ⟨w.heap.size + 1, 1, none⟩ (.int .i64 ad) hb (by first | assumption | simp [go_sem, *])
  have f1_4 := kc ⟨w.heap.size + 1 + 1, 0, none⟩ (.int .i64 cn) hb (by first | assumption | simp [go_sem, *])
  have f1_5 := kc ⟨w.heap.size + 1 + 1, 1, none⟩ (.int .i64 cd) hb (by first | assumption | simp [go_sem, *])
  have hB1 : Below w.heap.size w w1 := beyond (three w _ _ _) hb
  clear hb
  go_wp2_with fail
  refine (HR1.out _).mono ?_
  rintro e w2 ⟨rfl, hb⟩
  have f2_0 := kc ⟨w.heap.size, 0, none⟩ (.int .i64 an) hb f1_0
  have f2_1 := kc ⟨w.heap.size, 1, none⟩ (.int .i64 ad) hb f1_1
  have f2_2 := kc ⟨w.heap.size + 1, 0, none⟩ (.int .i64 an) hb f1_2
  have f2_3 := kc ⟨w.heap.size + 1, 1, none⟩ (.int .i64 ad) hb f1_3
  have f2_4 := kc ⟨w.heap.size + 1 + 1, 0, none⟩ (.int .i64 cn) hb f1_4
  have f2_5 := kc ⟨w.heap.size + 1 + 1, 1, none⟩ (.int .i64 cd) hb f1_5
  have hB2 : Below w.heap.size w w2 := beyond (hB1) hb
  clear hb f1_0 f1_1 f1_2 f1_3 f1_4 f1_5 hB1
  go_wp2_with fail
  refine (HR2.out _).mono ?_
  rintro e w3 ⟨rfl, hb⟩
  have f3_0 := kc ⟨w.heap.size, 0, none⟩ (.int .i64 an) hb f2_0
  have f3_1 := kc ⟨w.heap.size, 1, none⟩ (.int .i64 ad) hb f2_1
  have f3_2 := kc ⟨w.heap.size + 1, 0, none⟩ (.int .i64 an) hb f2_2
  have f3_3 := kc ⟨w.heap.size + 1, 1, none⟩ (.int .i64 ad) hb f2_3
  have f3_4 := kc ⟨w.heap.size + 1 + 1, 0, none⟩ (.int .i64 cn) hb f2_4
  have f3_5 := kc ⟨w.heap.size + 1 + 1, 1, none⟩ (.int .i64 cd) hb f2_5
  have hB3 : Below w.heap.size w w3 := beyond (hB2) hb
  clear hb f2_0 f2_1 f2_2 f2_3 f2_4 f2_5 hB2
  go_wp2_with fail
  refine (HC0.out _).mono ?_
  rintro e w4 ⟨rfl, hb⟩
  have f4_0 := kc ⟨w.heap.size, 0, none⟩ (.int .i64 an) hb f3_0
  have f4_1 := kc ⟨w.heap.size, 1, none⟩ (.int .i64 ad) hb f3_1
  have f4_2 := kc ⟨w.heap.size + 1, 0, none⟩ (.int .i64 an) hb f3_2
  have f4_3 := kc ⟨w.heap.size + 1, 1, none⟩ (.int .i64 ad) hb f3_3
  have f4_4 := kc ⟨w.heap.size + 1 + 1, 0, none⟩ (.int .i64 cn) hb f3_4
  have f4_5 := kc ⟨w.heap.size + 1 + 1, 1, none⟩ (.int .i64 cd) hb f3_5
  have hB4 : Below w.heap.size w w4 := beyond (hB3) hb
  clear hb f3_0 f3_1 f3_2 f3_3 f3_4 f3_5 hB3
  go_wp2_with fail
  refine (HC1.out _).mono ?_
  rintro e w5 ⟨rfl, hb⟩
  have f5_0 := kc ⟨w.heap.size, 0, none⟩ (.int .i64 an) hb f4_0
  have f5_1 := kc ⟨w.heap.size, 1, none⟩ (.int .i64 ad) hb f4_1
  have f5_2 := kc ⟨w.heap.size + 1, 0, none⟩ (.int .i64 an) hb f4_2
  have f5_3 := kc ⟨w.heap.size + 1, 1, none⟩ (.int .i64 ad) hb f4_3
  have f5_4 := kc ⟨w.heap.size + 1 + 1, 0, none⟩ (.int .i64 cn) hb f4_4
  have f5_5 := kc ⟨w.heap.size + 1 + 1, 1, none⟩ (.int .i64 cd) hb f4_5
  have hB5 : Below w.heap.size w w5 := beyond (hB4) hb
  clear hb f4_0 f4_1 f4_2 f4_3 f4_4 f4_5 hB4
  go_wp2_with fail
  refine (HC2.out _).mono ?_
  rintro e w6 ⟨rfl, hb⟩
  have f6_0 := kc ⟨w.heap.size, 0, none⟩ (.int .i64 an) hb f5_0
  have f6_1 := kc ⟨w.heap.size, 1, none⟩ (.int .i64 ad) hb f5_1
  have f6_2 := kc ⟨w.heap.size + 1, 0, none⟩ (.int .i64 an) hb f5_2
  have f6_3 := kc ⟨w.heap.size + 1, 1, none⟩ (.int .i64 ad) hb f5_3
  have f6_4 := kc ⟨w.heap.size + 1 + 1, 0, none⟩ (.int .i64 cn) hb f5_4
  have f6_5 := kc ⟨w.heap.size + 1 + 1, 1, none⟩ (.int .i64 cd) hb f5_5
  have hB6 : Below w.heap.size w w6 := beyond (hB5) hb
  clear hb f5_0 f5_1 f5_2 f5_3 f5_4 f5_5 hB5
  go_wp2_with fail
  refine (HS.out _).mono ?_
  rintro e w7 ⟨rfl, hb⟩
  have f7_0 := kc ⟨w.heap.size, 0, none⟩ (.int .i64 an) hb f6_0
  have f7_1 := kc ⟨w.heap.size, 1, none⟩ (.int .i64 ad) hb f6_1
  have f7_2 := kc ⟨w.heap.size + 1, 0, none⟩ (.int .i64 an) hb f6_2
  have f7_3 := kc ⟨w.heap.size + 1, 1, none⟩ (.int .i64 ad) hb f6_3
  have f7_4 := kc ⟨w.heap.size + 1 + 1, 0, none⟩ (.int .i64 cn) hb f6_4
  have f7_5 := kc ⟨w.heap.size + 1 + 1, 1, none⟩ (.int .i64 cd) hb f6_5
  have hB7 : Below w.heap.size w w7 := beyond (hB6) hb
  clear hb f6_0 f6_1 f6_2 f6_3 f6_4 f6_5 hB6
  have r7_0 : ∀ O, (w7.alloc O).cell? ⟨w.heap.size, 0, none⟩ = some (.int .i64 an) := fun O => kc _ _ (single _ _) f7_0
  have r7_1 : ∀ O, (w7.alloc O).cell? ⟨w.heap.size, 1, none⟩ = some (.int .i64 ad) := fun O => kc _ _ (single _ _) f7_1
  have r7_2 : ∀ O, (w7.alloc O).cell? ⟨w.heap.size + 1, 0, none⟩ = some (.int .i64 an) := fun O => kc _ _ (single _ _) f7_2
  have r7_3 : ∀ O, (w7.alloc O).cell? ⟨w.heap.size + 1, 1, none⟩ = some (.int .i64 ad) := fun O => kc _ _ (single _ _) f7_3
  have r7_4 : ∀ O, (w7.alloc O).cell? ⟨w.heap.size + 1 + 1, 0, none⟩ = some (.int .i64 cn) := fun O => kc _ _ (single _ _) f7_4
  have r7_5 : ∀ O, (w7.alloc O).cell? ⟨w.heap.size + 1 + 1, 1, none⟩ = some (.int .i64 cd) := fun O => kc _ _ (single _ _) f7_5
  have rB7 : ∀ O, Below w.heap.size w (w7.alloc O) := fun O => beyond hB7 (single _ _)
  go_wp2_with fail
  refine (live_any _ (pow_later ht (rB7 _))).mono ?_
  rintro e w8 ⟨rfl, hb⟩
  have f8_0 := kc ⟨w.heap.size, 0, none⟩ (.int .i64 an) hb (r7_0 _)
  have f8_1 := kc ⟨w.heap.size, 1, none⟩ (.int .i64 ad) hb (r7_1 _)
  have f8_2 := kc ⟨w.heap.size + 1, 0, none⟩ (.int .i64 an) hb (r7_2 _)
  have f8_3 := kc ⟨w.heap.size + 1, 1, none⟩ (.int .i64 ad) hb (r7_3 _)
  have f8_4 := kc ⟨w.heap.size + 1 + 1, 0, none⟩ (.int .i64 cn) hb (r7_4 _)
  have f8_5 := kc ⟨w.heap.size + 1 + 1, 1, none⟩ (.int .i64 cd) hb (r7_5 _)
  have f8_6 := kc ⟨w7.heap.size, 0, none⟩ (.int .i64 0) hb (new_cell w7 _ _ 0)
  have f8_7 := kc ⟨w7.heap.size, 1, none⟩ (.int .i64 dd) hb (new_cell w7 _ _ 1)
  have hB8 : Below w.heap.size w w8 := beyond (rB7 _) hb
  clear hb f7_0 f7_1 f7_2 f7_3 f7_4 f7_5 r7_0 r7_1 r7_2 r7_3 r7_4 r7_5 rB7 hB7
  go_wp2_with fail
  refine (HC3.out _).mono ?_
  rintro e w9 ⟨rfl, hb⟩
  have f9_0 := kc ⟨w.heap.size, 0, none⟩ (.int .i64 an) hb f8_0
  have f9_1 := kc ⟨w.heap.size, 1, none⟩ (.int .i64 ad) hb f8_1
  have f9_2 := kc ⟨w.heap.size + 1, 0, none⟩ (.int .i64 an) hb f8_2
  have f9_3 := kc ⟨w.heap.size + 1, 1, none⟩ (.int .i64 ad) hb f8_3
  have f9_4 := kc ⟨w.heap.size + 1 + 1, 0, none⟩ (.int .i64 cn) hb f8_4
  have f9_5 := kc ⟨w.heap.size + 1 + 1, 1, none⟩ (.int .i64 cd) hb f8_5
  have f9_6 := kc ⟨w7.heap.size, 0, none⟩ (.int .i64 0) hb f8_6
  have f9_7 := kc ⟨w7.heap.size, 1, none⟩ (.int .i64 dd) hb f8_7
  have hB9 : Below w.heap.size w w9 := beyond (hB8) hb
  clear hb f8_0 f8_1 f8_2 f8_3 f8_4 f8_5 f8_6 f8_7 hB8
  go_wp2_with fail
  go_ret
  exact ⟨rfl, hB9⟩
set_option maxRecDepth 100000 in
set_option maxHeartbeats 4000000 in
theorem orders_ln00 (an ad cn cd dd bn bd e dn z : Int) (w : World) (ht : Pow w) (hne : ¬ an = bn) (he : ¬ e = 0) (HR0 : Hid (AskR an ad true)) (HR1 : Hid (AskR bn bd true)) (HR2 : Hid (AskR cn cd true))
    (HC0 : Hid (AskC an ad bn bd (-1))) (HC1 : Hid (AskC bn bd cn cd 1)) (HC2 : Hid (AskC an ad cn cd z)) (HC3 : Hid (AskC bn bd an ad 1))
    (HS : Hid (CallsT 17 an ad bn bd (dn, dd, e))) :
    Calls Tryd.prog 6 #[rv an ad, rv bn bd, rv cn cd] w fun e w' => e = .returned (.bool true) ∧ Below w.heap.size w w' := by
  go_enter Tryd.func6, Tryd.ntmps6
  go_wp2_with fail
  refine (HR0.out _).mono ?_
  rintro e w1 ⟨rfl, hb⟩
  have f1_0 := kc ⟨w.heap.size, 0, none⟩ (.int .i64 an) hb (by first | assumption | simp [go_sem, *])
  have f1_1 := kc ⟨w.heap.size, 1, none⟩ (.int .i64 ad) hb (by first | assumption | simp [go_sem, *])
  have f1_2 := kc ⟨w.heap.size + 1, 0, none⟩ (.int .i64 bn) hb (by first | assumption | simp [go_sem, *])
  have f1_3 := kc ⟨w.heap.size + 1, 1, none⟩ (.int .i64 bd) hb (by first | assumption | simp [go_sem, *])
  have f1_4 := kc ⟨w.heap.size + 1 + 1, 0, none⟩ (.int .i64 cn) hb (by first | assumption | simp [go_sem, *])
  have f1_5 := kc ⟨w.heap.size + 1 + 1, 1, none⟩ (.int .i64 cd) hb (by first | assumption | simp [go_sem, *])
  have hB1 : Below w.heap.size w w1 := beyond (three w _ _ _) hb
  clear hb
  go_wp2_with fail
  refine (HR1.out _).mono ?_
  rintro e w2 ⟨rfl, hb⟩
  have f2_0 := kc ⟨w.heap.size, 0, none⟩ (.int .i64 an) hb f1_0
  have f2_1 := kc ⟨w.heap.size, 1, none⟩ (.int .i64 ad) hb f1_1
  have f2_2 := kc ⟨w.heap.size + 1, 0, none⟩ (.int .i64 bn) hb f1_2
  have f2_3 := kc ⟨w.heap.size + 1, 1, none⟩ (.int .i64 bd) hb f1_3
  have f2_4 := kc ⟨w.heap.size + 1 + 1, 0, none⟩ (.int .i64 cn) hb f1_4
  have f2_5 := kc ⟨w.heap.size + 1 + 1, 1, none⟩ (.int .i64 cd) hb f1_5
  have hB2 : Below w.heap.size w w2 := beyond (hB1) hb
  clear hb f1_0 f1_1 f1_2 f1_3 f1_4 f1_5 hB1
  go_wp2_with fail
  refine (HR2.out _).mono ?_
  rintro e w3 ⟨rfl, hb⟩
  have f3_0 := kc ⟨w.heap.size, 0, none⟩ (.int .i64 an) hb f2_0
  have f3_1 := kc ⟨w.heap.size, 1, none⟩ (.int .i64 ad) hb f2_1
  have f3_2 := kc ⟨w.heap.size + 1, 0, none⟩ (.int .i64 bn) hb f2_2
  have f3_3 := kc ⟨w.heap.size + 1, 1, none⟩ (.int .i64 bd) hb f2_3
  have f3_4 := kc ⟨w.heap.size + 1 + 1, 0, none⟩ (.int .i64 cn) hb f2_4
  have f3_5 := kc ⟨w.heap.size + 1 + 1, 1, none⟩ (.int .i64 cd) hb f2_5
  have hB3 : Below w.heap.size w w3 := beyond (hB2) hb
  clear hb f2_0 f2_1 f2_2 f2_3 f2_4 f2_5 hB2
  go_wp2_with fail
  refine (HC0.out _).mono ?_
  rintro e w4 ⟨rfl, hb⟩
  have f4_0 := kc ⟨w.heap.size, 0, none⟩ (.int .i64 an) hb f3_0
  have f4_1 := kc ⟨w.heap.size, 1, none⟩ (.int .i64 ad) hb f3_1
  have f4_2 := kc ⟨w.heap.size + 1, 0, none⟩ (.int .i64 bn) hb f3_2
  have f4_3 := kc ⟨w.heap.size + 1, 1, none⟩ (.int .i64 bd) hb f3_3
  have f4_4 := kc ⟨w.heap.size + 1 + 1, 0, none⟩ (.int .i64 cn) hb f3_4
  have f4_5 := kc ⟨w.heap.size + 1 + 1, 1, none⟩ (.int .i64 cd) hb f3_5
  have hB4 : Below w.heap.size w w4 := beyond (hB3) hb
  clear hb f3_0 f3_1 f3_2 f3_3 f3_4 f3_5 hB3
  go_wp2_with fail
  refine (HC1.out _).mono ?_
  rintro e w5 ⟨rfl, hb⟩
  have f5_0 := kc ⟨w.heap.size, 0, none⟩ (.int .i64 an) hb f4_0
  have f5_1 := kc ⟨w.heap.size, 1, none⟩ (.int .i64 ad) hb f4_1
  have f5_2 := kc ⟨w.heap.size + 1, 0, none⟩ (.int .i64 bn) hb f4_2
  have f5_3 := kc ⟨w.heap.size + 1, 1, none⟩ (.int .i64 bd) hb f4_3
  have f5_4 := kc ⟨w.heap.size + 1 + 1, 0, none⟩ (.int .i64 cn) hb f4_4
  have f5_5 := kc ⟨w.heap.size + 1 + 1, 1, none⟩ (.int .i64 cd) hb f4_5
  have hB5 : Below w.heap.size w w5 := beyond (hB4) hb
  clear hb f4_0 f4_1 f4_2 f4_3 f4_4 f4_5 hB4
  go_wp2_with fail
  refine (HC2.out _).mono ?_
  rintro e w6 ⟨rfl, hb⟩
  have f6_0 := kc ⟨w.heap.size, 0, none⟩ (.int .i64 an) hb f5_0
  have f6_1 := kc ⟨w.heap.size, 1, none⟩ (.int .i64 ad) hb f5_1
  have f6_2 := kc ⟨w.heap.size + 1, 0, none⟩ (.int .i64 bn) hb f5_2
  have f6_3 := kc ⟨w.heap.size + 1, 1, none⟩ (.int .i64 bd) hb f5_3
  have f6_4 := kc ⟨w.heap.size + 1 + 1, 0, none⟩ (.int .i64 cn) hb f5_4
  have f6_5 := kc ⟨w.heap.size + 1 + 1, 1, none⟩ (.int .i64 cd) hb f5_5
  have hB6 : Below w.heap.size w w6 := beyond (hB5) hb
  clear hb f5_0 f5_1 f5_2 f5_3 f5_4 f5_5 hB5
  go_wp2_with fail
  refine (HS.out _).mono ?_
  rintro e w7 ⟨rfl, hb⟩
  have f7_0 := kc ⟨w.heap.size, 0, none⟩ (.int .i64 an) hb f6_0
  have f7_1 := kc ⟨w.heap.size, 1, none⟩ (.int .i64 ad) hb f6_1
  have f7_2 := kc ⟨w.heap.size + 1, 0, none⟩ (.int .i64 bn) hb f6_2
  have f7_3 := kc ⟨w.heap.size + 1, 1, none⟩ (.int .i64 bd) hb f6_3
  have f7_4 := kc ⟨w.heap.size + 1 + 1, 0, none⟩ (.int .i64 cn) hb f6_4
  have f7_5 := kc ⟨w.heap.size + 1 + 1, 1, none⟩ (.int .i64 cd) hb f6_5
  have hB7 : Below w.heap.size w w7 := beyond (hB6) hb
  clear hb f6_0 f6_1 f6_2 f6_3 f6_4 f6_5 hB6
  have r7_0 : ∀ O, (w7.alloc O).cell? ⟨w.heap.size, 0, none⟩ = some (.int .i64 an) := fun O => kc _ _ (single _ _) f7_0
  have r7_1 : ∀ O, (w7.alloc O).cell? ⟨w.heap.size, 1, none⟩ = some (.int .i64 ad) := fun O => kc _ _ (single _ _) f7_1
  have r7_2 : ∀ O, (w7.alloc O).cell? ⟨w.heap.size + 1, 0, none⟩ = some (.int .i64 bn) := fun O => kc _ _ (single _ _) f7_2
  have r7_3 : ∀ O, (w7.alloc O).cell? ⟨w.heap.size + 1, 1, none⟩ = some (.int .i64 bd) := fun O => kc _ _ (single _ _) f7_3
  have r7_4 : ∀ O, (w7.alloc O).cell? ⟨w.heap.size + 1 + 1, 0, none⟩ = some (.int .i64 cn) := fun O => kc _ _ (single _ _) f7_4
  have r7_5 : ∀ O, (w7.alloc O).cell? ⟨w.heap.size + 1 + 1, 1, none⟩ = some (.int .i64 cd) := fun O => kc _ _ (single _ _) f7_5
  have rB7 : ∀ O, Below w.heap.size w (w7.alloc O) := fun O => beyond hB7 (single _ _)
  go_wp2_with fail
  refine (live_any _ (pow_later ht (rB7 _))).mono ?_
  rintro e w8 ⟨rfl, hb⟩
  have f8_0 := kc ⟨w.heap.size, 0, none⟩ (.int .i64 an) hb (r7_0 _)
  have f8_1 := kc ⟨w.heap.size, 1, none⟩ (.int .i64 ad) hb (r7_1 _)
  have f8_2 := kc ⟨w.heap.size + 1, 0, none⟩ (.int .i64 bn) hb (r7_2 _)
  have f8_3 := kc ⟨w.heap.size + 1, 1, none⟩ (.int .i64 bd) hb (r7_3 _)
  have f8_4 := kc ⟨w.heap.size + 1 + 1, 0, none⟩ (.int .i64 cn) hb (r7_4 _)
  have f8_5 := kc ⟨w.heap.size + 1 + 1, 1, none⟩ (.int .i64 cd) hb (r7_5 _)
  have f8_6 := kc ⟨w7.heap.size, 0, none⟩ (.int .i64 dn) hb (new_cell w7 _ _ 0)
  have f8_7 := kc ⟨w7.heap.size, 1, none⟩ (.int .i64 dd) hb (new_cell w7 _ _ 1)
  have hB8 : Below w.heap.size w w8 := beyond (rB7 _) hb
  clear hb f7_0 f7_1 f7_2 f7_3 f7_4 f7_5 r7_0 r7_1 r7_2 r7_3 r7_4 r7_5 rB7 hB7
  go_wp2_with fail
  refine (HC3.out _).mono ?_
  rintro e w9 ⟨rfl, hb⟩
  have f9_0 := kc ⟨w.heap.size, 0, none⟩ (.int .i64 an) hb f8_0
  have f9_1 := kc ⟨w.heap.size, 1, none⟩ (.int .i64 ad) hb f8_1
  have f9_2 := kc ⟨w.heap.size + 1, 0, none⟩ (.int .i64 bn) hb f8_2
  have f9_3 := kc ⟨w.heap.size + 1, 1, none⟩ (.int .i64 bd) hb f8_3
  have f9_4 := kc ⟨w.heap.size + 1 + 1, 0, none⟩ (.int .i64 cn) hb f8_4
  have f9_5 := kc ⟨w.heap.size + 1 + 1, 1, none⟩ (.int .i64 cd) hb f8_5
  have f9_6 := kc ⟨w7.heap.size, 0, none⟩ (.int .i64 dn) hb f8_6
  have f9_7 := kc ⟨w7.heap.size, 1, none⟩ (.int .i64 dd) hb f8_7
  have hB9 : Below w.heap.size w w9 := beyond (hB8) hb
  clear hb f8_0 f8_1 f8_2 f8_3 f8_4 f8_5 f8_6 f8_7 hB8
  go_wp2_with fail
  go_ret
  exact ⟨rfl, hB9⟩
set_option maxRecDepth 100000 in
set_option maxHeartbeats 4000000 in
theorem orders_ln01 (an ad cn cd dd bn bd e dn : Int) (w : World) (ht : Pow w) (hne : ¬ an = bn) (he : ¬ e = 0) (HR0 : Hid (AskR an ad true)) (HR1 : Hid (AskR bn bd true)) (HR2 : Hid (AskR cn cd true))
    (HC0 : Hid (AskC an ad bn bd (-1))) (HC1 : Hid (AskC bn bd cn cd 0)) (HC2 : Hid (AskC an ad cn cd (-1))) (HC3 : Hid (AskC bn bd an ad 1))
    (HS : Hid (CallsT 17 an ad bn bd (dn, dd, e))) :
    Calls Tryd.prog 6 #[rv an ad, rv bn bd, rv cn cd] w fun e w' => e = .returned (.bool true) ∧ Below w.heap.size w w' := by
  go_enter Tryd.func6, Tryd.ntmps6
  go_wp2_with fail
  refine (HR0.out _).mono ?_
  rintro e w1 ⟨rfl, hb⟩
  have f1_0 := kc ⟨w.heap.size, 0, none⟩ (.int .i64 an) hb (by first | assumption | simp [go_sem, *])
  have f1_1 := kc ⟨w.heap.size, 1, none⟩ (.int .i64 ad) hb (by first | assumption | simp [go_sem, *])
  have f1_2 := kc ⟨w.heap.size + 1, 0, none⟩ (.int .i64 bn) hb (by first | assumption | simp [go_sem, *])
  have f1_3 := kc ⟨w.heap.size + 1, 1, none⟩ (.int .i64 bd) hb (by first | assumption | simp [go_sem, *])
  have f1_4 := kc ⟨w.heap.size + 1 + 1, 0, none⟩ (.int .i64 cn) hb (by first | assumption | simp [go_sem, *])
  have f1_5 := kc ⟨w.heap.size + 1 + 1, 1, none⟩ (.int .i64 cd) hb (by first | assumption | simp [go_sem, *])
  have hB1 : Below w.heap.size w w1 := beyond (three w _ _ _) hb
  clear hb
  go_wp2_with fail
  refine (HR1.out _).mono ?_
  rintro e w2 ⟨rfl, hb⟩
  have f2_0 := kc ⟨w.heap.size, 0, none⟩ (.int .i64 an) hb f1_0
  have f2_1 := kc ⟨w.heap.size, 1, none⟩ (.int .i64 ad) hb f1_1
  have f2_2 := kc ⟨w.heap.size + 1, 0, none⟩ (.int .i64 bn) hb f1_2
  have f2_3 := kc ⟨w.heap.size + 1, 1, none⟩ (.int .i64 bd) hb f1_3
  have f2_4 := kc ⟨w.heap.size + 1 + 1, 0, none⟩ (.int .i64 cn) hb f1_4
  have f2_5 := kc ⟨w.heap.size + 1 + 1, 1, none⟩ (.int .i64 cd) hb f1_5
  have hB2 : Below w.heap.size w w2 := beyond (hB1) hb
  clear hb f1_0 f1_1 f1_2 f1_3 f1_4 f1_5 hB1
  go_wp2_with fail
  refine (HR2.out _).mono ?_
  rintro e w3 ⟨rfl, hb⟩
  have f3_0 := kc ⟨w.heap.size, 0, none⟩ (.int .i64 an) hb f2_0
  have f3_1 := kc ⟨w.heap.size, 1, none⟩ (.int .i64 ad) hb f2_1
  have f3_2 := kc ⟨w.heap.size + 1, 0, none⟩ (.int .i64 bn) hb f2_2
  have f3_3 := kc ⟨w.heap.size + 1, 1, none⟩ (.int .i64 bd) hb f2_3
  have f3_4 := kc ⟨w.heap.size + 1 + 1, 0, none⟩ (.int .i64 cn) hb f2_4
  have f3_5 := kc ⟨w.heap.size + 1 + 1, 1, none⟩ (.int .i64 cd) hb f2_5
  have hB3 : Below w.heap.size w w3 := beyond (hB2) hb
  clear hb f2_0 f2_1 f2_2 f2_3 f2_4 f2_5 hB2
  go_wp2_with fail
  refine (HC0.out _).mono ?_
  rintro e w4 ⟨rfl, hb⟩
  have f4_0 := kc ⟨w.heap.size, 0, none⟩ (.int .i64 an) hb f3_0
  have f4_1 := kc ⟨w.heap.size, 1, none⟩ (.int .i64 ad) hb f3_1
  have f4_2 := kc ⟨w.heap.size + 1, 0, none⟩ (.int .i64 bn) hb f3_2
  have f4_3 := kc ⟨w.heap.size + 1, 1, none⟩ (.int .i64 bd) hb f3_3
  have f4_4 := kc ⟨w.heap.size + 1 + 1, 0, none⟩ (.int .i64 cn) hb f3_4
  have f4_5 := kc ⟨w.heap.size + 1 + 1, 1, none⟩ (.int .i64 cd) hb f3_5
  have hB4 : Below w.heap.size w w4 := beyond (hB3) hb
  clear hb f3_0 f3_1 f3_2 f3_3 f3_4 f3_5 hB3
  go_wp2_with fail
  refine (HC1.out _).mono ?_
  rintro e w5 ⟨rfl, hb⟩
  have f5_0 := kc ⟨w.heap.size, 0, none⟩ (.int .i64 an) hb f4_0
  have f5_1 := kc ⟨w.heap.size, 1, none⟩ (.int .i64 ad) hb f4_1
  have f5_2 := kc ⟨w.heap.size + 1, 0, none⟩ (.int .i64 bn) hb f4_2
  have f5_3 := kc ⟨w.heap.size + 1, 1, none⟩ (.int .i64 bd) hb f4_3
  have f5_4 := kc ⟨w.heap.size + 1 + 1, 0, none⟩ (.int .i64 cn) hb f4_4
  have f5_5 := kc ⟨w.heap.size + 1 + 1, 1, none⟩ (.int .i64 cd) hb f4_5
  have hB5 : Below w.heap.size w w5 := beyond (hB4) hb
  clear hb f4_0 f4_1 f4_2 f4_3 f4_4 f4_5 hB4
  go_wp2_with fail
  refine (HC2.out _).mono ?_
  rintro e w6 ⟨rfl, hb⟩
  have f6_0 := kc ⟨w.heap.size, 0, none⟩ (.int .i64 an) hb f5_0
  have f6_1 := kc ⟨w.heap.size, 1, none⟩ (.int .i64 ad) hb f5_1
  have f6_2 := kc ⟨w.heap.size + 1, 0, none⟩ (.int .i64 bn) hb f5_2
  have f6_3 := kc ⟨w.heap.size + 1, 1, none⟩ (.int .i64 bd) hb f5_3
  have f6_4 := kc ⟨w.heap.size + 1 + 1, 0, none⟩ (.int .i64 cn) hb f5_4
  have f6_5 := kc ⟨w.heap.size + 1 + 1, 1, none⟩ (.int .i64 cd) hb f5_5
  have hB6 : Below w.heap.size w w6 := beyond (hB5) hb
  clear hb f5_0 f5_1 f5_2 f5_3 f5_4 f5_5 hB5
  go_wp2_with fail
  refine (HS.out _).mono ?_
  rintro e w7 ⟨rfl, hb⟩
  have f7_0 := kc ⟨w.heap.size, 0, none⟩ (.int .i64 an) hb f6_0
  have f7_1 := kc ⟨w.heap.size, 1, none⟩ (.int .i64 ad) hb f6_1
  have f7_2 := kc ⟨w.heap.size + 1, 0, none⟩ (.int .i64 bn) hb f6_2
  have f7_3 := kc ⟨w.heap.size + 1, 1, none⟩ (.int .i64 bd) hb f6_3
  have f7_4 := kc ⟨w.heap.size + 1 + 1, 0, none⟩ (.int .i64 cn) hb f6_4
  have f7_5 := kc ⟨w.heap.size + 1 + 1, 1, none⟩ (.int .i64 cd) hb f6_5
  have hB7 : Below w.heap.size w w7 := beyond (hB6) hb
  clear hb f6_0 f6_1 f6_2 f6_3 f6_4 f6_5 hB6
  have r7_0 : ∀ O, (w7.alloc O).cell? ⟨w.heap.size, 0, none⟩ = some (.int .i64 an) := fun O => kc _ _ (single _ _) f7_0
  have r7_1 : ∀ O, (w7.alloc O).cell? ⟨w.heap.size, 1, none⟩ = some (.int .i64 ad) := fun O => kc _ _ (single _ _) f7_1
  have r7_2 : ∀ O, (w7.alloc O).cell? ⟨w.heap.size + 1, 0, none⟩ = some (.int .i64 bn) := fun O => kc _ _ (single _ _) f7_2
  have r7_3 : ∀ O, (w7.alloc O).cell? ⟨w.heap.size + 1, 1, none⟩ = some (.int .i64 bd) := fun O => kc _ _ (single _ _) f7_3
  have r7_4 : ∀ O, (w7.alloc O).cell? ⟨w.heap.size + 1 + 1, 0, none⟩ = some (.int .i64 cn) := fun O => kc _ _ (single _ _) f7_4
  have r7_5 : ∀ O, (w7.alloc O).cell? ⟨w.heap.size + 1 + 1, 1, none⟩ = some (.int .i64 cd) := fun O => kc _ _ (single _ _) f7_5
  have rB7 : ∀ O, Below w.heap.size w (w7.alloc O) := fun O => beyond hB7 (single _ _)
  go_wp2_with fail
  refine (live_any _ (pow_later ht (rB7 _))).mono ?_
  rintro e w8 ⟨rfl, hb⟩
  have f8_0 := kc ⟨w.heap.size, 0, none⟩ (.int .i64 an) hb (r7_0 _)
  have f8_1 := kc ⟨w.heap.size, 1, none⟩ (.int .i64 ad) hb (r7_1 _)
  have f8_2 := kc ⟨w.heap.size + 1, 0, none⟩ (.int .i64 bn) hb (r7_2 _)
  have f8_3 := kc ⟨w.heap.size + 1, 1, none⟩ (.int .i64 bd) hb (r7_3 _)
  have f8_4 := kc ⟨w.heap.size + 1 + 1, 0, none⟩ (.int .i64 cn) hb (r7_4 _)
  have f8_5 := kc ⟨w.heap.size + 1 + 1, 1, none⟩ (.int .i64 cd) hb (r7_5 _)
  have f8_6 := kc ⟨w7.heap.size, 0, none⟩ (.int .i64 dn) hb (new_cell w7 _ _ 0)
  have f8_7 := kc ⟨w7.heap.size, 1, none⟩ (.int .i64 dd) hb (new_cell w7 _ _ 1)
  have hB8 : Below w.heap.size w w8 := beyond (rB7 _) hb
  clear hb f7_0 f7_1 f7_2 f7_3 f7_4 f7_5 r7_0 r7_1 r7_2 r7_3 r7_4 r7_5 rB7 hB7
  go_wp2_with fail
  refine (HC3.out _).mono ?_
  rintro e w9 ⟨rfl, hb⟩
  have f9_0 := kc ⟨w.heap.size, 0, none⟩ (.int .i64 an) hb f8_0
  have f9_1 := kc ⟨w.heap.size, 1, none⟩ (.int .i64 ad) hb f8_1
  have f9_2 := kc ⟨w.heap.size + 1, 0, none⟩ (.int .i64 bn) hb f8_2
  have f9_3 := kc ⟨w.heap.size + 1, 1, none⟩ (.int .i64 bd) hb f8_3
  have f9_4 := kc ⟨w.heap.size + 1 + 1, 0, none⟩ (.int .i64 cn) hb f8_4
  have f9_5 := kc ⟨w.heap.size + 1 + 1, 1, none⟩ (.int .i64 cd) hb f8_5
  have f9_6 := kc ⟨w7.heap.size, 0, none⟩ (.int .i64 dn) hb f8_6
  have f9_7 := kc ⟨w7.heap.size, 1, none⟩ (.int .i64 dd) hb f8_7
  have hB9 : Below w.heap.size w w9 := beyond (hB8) hb
  clear hb f8_0 f8_1 f8_2 f8_3 f8_4 f8_5 f8_6 f8_7 hB8
  go_wp2_with fail
  go_ret
  exact ⟨rfl, hB9⟩
set_option maxRecDepth 100000 in
set_option maxHeartbeats 4000000 in
theorem orders_ln02 (an ad cn cd dd bn bd e dn : Int) (w : World) (ht : Pow w) (hne : ¬ an = bn) (he : ¬ e = 0) (HR0 : Hid (AskR an ad true)) (HR1 : Hid (AskR bn bd true)) (HR2 : Hid (AskR cn cd true))
    (HC0 : Hid (AskC an ad bn bd (-1))) (HC1 : Hid (AskC bn bd cn cd (-1))) (HC2 : Hid (AskC an ad cn cd (-1))) (HC3 : Hid (AskC bn bd an ad 1))
    (HS : Hid (CallsT 17 an ad bn bd (dn, dd, e))) :
    Calls Tryd.prog 6 #[rv an ad, rv bn bd, rv cn cd] w fun e w' => e = .returned (.bool true) ∧ Below w.heap.size w w' := by
  go_enter Tryd.func6, Tryd.ntmps6
  go_wp2_with fail
  refine (HR0.out _).mono ?_
  rintro e w1 ⟨rfl, hb⟩
  have f1_0 := kc ⟨w.heap.size, 0, none⟩ (.int .i64 an) hb (by first | assumption | simp [go_sem, *])
  have f1_1 := kc ⟨w.heap.size, 1, none⟩ (.int .i64 ad) hb (by first | assumption | simp [go_sem, *])
  have f1_2 := kc ⟨w.heap.size + 1, 0, none⟩ (.int .i64 bn) hb (by first | assumption | simp [go_sem, *])
  have f1_3 := kc ⟨w.heap.size + 1, 1, none⟩ (.int .i64 bd) hb (by first | assumption | simp [go_sem, *])
  have f1_4 := kc ⟨w.heap.size + 1 + 1, 0, none⟩ (.int .i64 cn) hb (by first | assumption | simp [go_sem, *])
  have f1_5 := kc ⟨w.heap.size + 1 + 1, 1, none⟩ (.int .i64 cd) hb (by first | assumption | simp [go_sem, *])
  have hB1 : Below w.heap.size w w1 := beyond (three w _ _ _) hb
  clear hb
  go_wp2_with fail
  refine (HR1.out _).mono ?_
  rintro e w2 ⟨rfl, hb⟩
  have f2_0 := kc ⟨w.heap.size, 0, none⟩ (.int .i64 an) hb f1_0
  have f2_1 := kc ⟨w.heap.size, 1, none⟩ (.int .i64 ad) hb f1_1
  have f2_2 := kc ⟨w.heap.size + 1, 0, none⟩ (.int .i64 bn) hb f1_2
  have f2_3 := kc ⟨w.heap.size + 1, 1, none⟩ (.int .i64 bd) hb f1_3
  have f2_4 := kc ⟨w.heap.size + 1 + 1, 0, none⟩ (.int .i64 cn) hb f1_4
  have f2_5 := kc ⟨w.heap.size + 1 + 1, 1, none⟩ (.int .i64 cd) hb f1_5
  have hB2 : Below w.heap.size w w2 := beyond (hB1) hb
  clear hb f1_0 f1_1 f1_2 f1_3 f1_4 f1_5 hB1
  go_wp2_with fail
  refine (HR2.out _).mono ?_
  rintro e w3 ⟨rfl, hb⟩
  have f3_0 := kc ⟨w.heap.size, 0, none⟩ (.int .i64 an) hb f2_0
  have f3_1 := kc ⟨w.heap.size, 1, none⟩ (.int .i64 ad) hb f2_1
  have f3_2 := kc ⟨w.heap.size + 1, 0, none⟩ (.int .i64 bn) hb f2_2
  have f3_3 := kc ⟨w.heap.size + 1, 1, none⟩ (.int .i64 bd) hb f2_3
  have f3_4 := kc ⟨w.heap.size + 1 + 1, 0, none⟩ (.int .i64 cn) hb f2_4
  have f3_5 := kc ⟨w.heap.size + 1 + 1, 1, none⟩ (.int .i64 cd) hb f2_5
  have hB3 : Below w.heap.size w w3 := beyond (hB2) hb
  clear hb f2_0 f2_1 f2_2 f2_3 f2_4 f2_5 hB2
  go_wp2_with fail
  refine (HC0.out _).mono ?_
  rintro e w4 ⟨rfl, hb⟩
  have f4_0 := kc ⟨w.heap.size, 0, none⟩ (.int .i64 an) hb f3_0
  have f4_1 := kc ⟨w.heap.size, 1, none⟩ (.int .i64 ad) hb f3_1
  have f4_2 := kc ⟨w.heap.size + 1, 0, none⟩ (.int .i64 bn) hb f3_2
  have f4_3 := kc ⟨w.heap.size + 1, 1, none⟩ (.int .i64 bd) hb f3_3
  have f4_4 := kc ⟨w.heap.size + 1 + 1, 0, none⟩ (.int .i64 cn) hb f3_4
  have f4_5 := kc ⟨w.heap.size + 1 + 1, 1, none⟩ (.int .i64 cd) hb f3_5
  have hB4 : Below w.heap.size w w4 := beyond (hB3) hb
  clear hb f3_0 f3_1 f3_2 f3_3 f3_4 f3_5 hB3
  go_wp2_with fail
  refine (HC1.out _).mono ?_
  rintro e w5 ⟨rfl, hb⟩
  have f5_0 := kc ⟨w.heap.size, 0, none⟩ (.int .i64 an) hb f4_0
  have f5_1 := kc ⟨w.heap.size, 1, none⟩ (.int .i64 ad) hb f4_1
  have f5_2 := kc ⟨w.heap.size + 1, 0, none⟩ (.int .i64 bn) hb f4_2
  have f5_3 := kc ⟨w.heap.size + 1, 1, none⟩ (.int .i64 bd) hb f4_3
  have f5_4 := kc ⟨w.heap.size + 1 + 1, 0, none⟩ (.int .i64 cn) hb f4_4
  have f5_5 := kc ⟨w.heap.size + 1 + 1, 1, none⟩ (.int .i64 cd) hb f4_5
  have hB5 : Below w.heap.size w w5 := beyond (hB4) hb
  clear hb f4_0 f4_1 f4_2 f4_3 f4_4 f4_5 hB4
  go_wp2_with fail
  refine (HC2.out _).mono ?_
  rintro e w6 ⟨rfl, hb⟩
  have f6_0 := kc ⟨w.heap.size, 0, none⟩ (.int .i64 an) hb f5_0
  have f6_1 := kc ⟨w.heap.size, 1, none⟩ (.int .i64 ad) hb f5_1
  have f6_2 := kc ⟨w.heap.size + 1, 0, none⟩ (.int .i64 bn) hb f5_2
  have f6_3 := kc ⟨w.heap.size + 1, 1, none⟩ (.int .i64 bd) hb f5_3
  have f6_4 := kc ⟨w.heap.size + 1 + 1, 0, none⟩ (.int .i64 cn) hb f5_4
  have f6_5 := kc ⟨w.heap.size + 1 + 1, 1, none⟩ (.int .i64 cd) hb f5_5
  have hB6 : Below w.heap.size w w6 := beyond (hB5) hb
  clear hb f5_0 f5_1 f5_2 f5_3 f5_4 f5_5 hB5
  go_wp2_with fail
  refine (HS.out _).mono ?_
  rintro e w7 ⟨rfl, hb⟩
  have f7_0 := kc ⟨w.heap.size, 0, none⟩ (.int .i64 an) hb f6_0
  have f7_1 := kc ⟨w.heap.size, 1, none⟩ (.int .i64 ad) hb f6_1
  have f7_2 := kc ⟨w.heap.size + 1, 0, none⟩ (.int .i64 bn) hb f6_2
  have f7_3 := kc ⟨w.heap.size + 1, 1, none⟩ (.int .i64 bd) hb f6_3
  have f7_4 := kc ⟨w.heap.size + 1 + 1, 0, none⟩ (.int .i64 cn) hb f6_4
  have f7_5 := kc ⟨w.heap.size + 1 + 1, 1, none⟩ (.int .i64 cd) hb f6_5
  have hB7 : Below w.heap.size w w7 := beyond (hB6) hb
  clear hb f6_0 f6_1 f6_2 f6_3 f6_4 f6_5 hB6
  have r7_0 : ∀ O, (w7.alloc O).cell? ⟨w.heap.size, 0, none⟩ = some (.int .i64 an) := fun O => kc _ _ (single _ _) f7_0
  have r7_1 : ∀ O, (w7.alloc O).cell? ⟨w.heap.size, 1, none⟩ = some (.int .i64 ad) := fun O => kc _ _ (single _ _) f7_1
  have r7_2 : ∀ O, (w7.alloc O).cell? ⟨w.heap.size + 1, 0, none⟩ = some (.int .i64 bn) := fun O => kc _ _ (single _ _) f7_2
  have r7_3 : ∀ O, (w7.alloc O).cell? ⟨w.heap.size + 1, 1, none⟩ = some (.int .i64 bd) := fun O => kc _ _ (single _ _) f7_3
  have r7_4 : ∀ O, (w7.alloc O).cell? ⟨w.heap.size + 1 + 1, 0, none⟩ = some (.int .i64 cn) := fun O => kc _ _ (single _ _) f7_4
  have r7_5 : ∀ O, (w7.alloc O).cell? ⟨w.heap.size + 1 + 1, 1, none⟩ = some (.int .i64 cd) := fun O => kc _ _ (single _ _) f7_5
  have rB7 : ∀ O, Below w.heap.size w (w7.alloc O) := fun O => beyond hB7 (single _ _)
  go_wp2_with fail
  refine (live_any _ (pow_later ht (rB7 _))).mono ?_
  rintro e w8 ⟨rfl, hb⟩
  have f8_0 := kc ⟨w.heap.size, 0, none⟩ (.int .i64 an) hb (r7_0 _)
  have f8_1 := kc ⟨w.heap.size, 1, none⟩ (.int .i64 ad) hb (r7_1 _)
  have f8_2 := kc ⟨w.heap.size + 1, 0, none⟩ (.int .i64 bn) hb (r7_2 _)
  have f8_3 := kc ⟨w.heap.size + 1, 1, none⟩ (.int .i64 bd) hb (r7_3 _)
  have f8_4 := kc ⟨w.heap.size + 1 + 1, 0, none⟩ (.int .i64 cn) hb (r7_4 _)
  have f8_5 := kc ⟨w.heap.size + 1 + 1, 1, none⟩ (.int .i64 cd) hb (r7_5 _)
  have f8_6 := kc ⟨w7.heap.size, 0, none⟩ (.int .i64 dn) hb (new_cell w7 _ _ 0)
  have f8_7 := kc ⟨w7.heap.size, 1, none⟩ (.int .i64 dd) hb (new_cell w7 _ _ 1)
  have hB8 : Below w.heap.size w w8 := beyond (rB7 _) hb
  clear hb f7_0 f7_1 f7_2 f7_3 f7_4 f7_5 r7_0 r7_1 r7_2 r7_3 r7_4 r7_5 rB7 hB7
  go_wp2_with fail
  refine (HC3.out _).mono ?_
  rintro e w9 ⟨rfl, hb⟩
  have f9_0 := kc ⟨w.heap.size, 0, none⟩ (.int .i64 an) hb f8_0
  have f9_1 := kc ⟨w.heap.size, 1, none⟩ (.int .i64 ad) hb f8_1
  have f9_2 := kc ⟨w.heap.size + 1, 0, none⟩ (.int .i64 bn) hb f8_2
  have f9_3 := kc ⟨w.heap.size + 1, 1, none⟩ (.int .i64 bd) hb f8_3
  have f9_4 := kc ⟨w.heap.size + 1 + 1, 0, none⟩ (.int .i64 cn) hb f8_4
  have f9_5 := kc ⟨w.heap.size + 1 + 1, 1, none⟩ (.int .i64 cd) hb f8_5
  have f9_6 := kc ⟨w7.heap.size, 0, none⟩ (.int .i64 dn) hb f8_6
  have f9_7 := kc ⟨w7.heap.size, 1, none⟩ (.int .i64 dd) hb f8_7
  have hB9 : Below w.heap.size w w9 := beyond (hB8) hb
  clear hb f8_0 f8_1 f8_2 f8_3 f8_4 f8_5 f8_6 f8_7 hB8
  go_wp2_with fail
  go_ret
  exact ⟨rfl, hB9⟩
set_option maxRecDepth 100000 in
set_option maxHeartbeats 4000000 in
theorem orders_gn0 (an ad cn cd dd bn bd e dn y z : Int) (w : World) (ht : Pow w) (hne : ¬ an = bn) (he : ¬ e = 0) (HR0 : Hid (AskR an ad true)) (HR1 : Hid (AskR bn bd true)) (HR2 : Hid (AskR cn cd true))
    (HC0 : Hid (AskC an ad bn bd 1)) (HC1 : Hid (AskC bn bd cn cd y)) (HC2 : Hid (AskC an ad cn cd z)) (HC3 : Hid (AskC bn bd an ad (-1)))
    (HS : Hid (CallsT 17 an ad bn bd (dn, dd, e))) :
    Calls Tryd.prog 6 #[rv an ad, rv bn bd, rv cn cd] w fun e w' => e = .returned (.bool true) ∧ Below w.heap.size w w' := by
  go_enter Tryd.func6, Tryd.ntmps6
  go_wp2_with fail
  refine (HR0.out _).mono ?_
  rintro e w1 ⟨rfl, hb⟩
  have f1_0 := kc ⟨w.heap.size, 0, none⟩ (.int .i64 an) hb (by first | assumption | simp [go_sem, *])
  have f1_1 := kc ⟨w.heap.size, 1, none⟩ (.int .i64 ad) hb (by first | assumption | simp [go_sem, *])
  have f1_2 := kc ⟨w.heap.size + 1, 0, none⟩ (.int .i64 bn) hb (by first | assumption | simp [go_sem, *])
  have f1_3 := kc ⟨w.heap.size + 1, 1, none⟩ (.int .i64 bd) hb (by first | assumption | simp [go_sem, *])
  have f1_4 := kc ⟨w.heap.size + 1 + 1, 0, none⟩ (.int .i64 cn) hb (by first | assumption | simp [go_sem, *])
  have f1_5 := kc ⟨w.heap.size + 1 + 1, 1, none⟩ (.int .i64 cd) hb (by first | assumption | simp [go_sem, *])
  have hB1 : Below w.heap.size w w1 := beyond (three w _ _ _) hb
  clear hb
  go_wp2_with fail
  refine (HR1.out _).mono ?_
  rintro e w2 ⟨rfl, hb⟩
  have f2_0 := kc ⟨w.heap.size, 0, none⟩ (.int .i64 an) hb f1_0
  have f2_1 := kc ⟨w.heap.size, 1, none⟩ (.int .i64 ad) hb f1_1
  have f2_2 := kc ⟨w.heap.size + 1, 0, none⟩ (.int .i64 bn) hb f1_2
  have f2_3 := kc ⟨w.heap.size + 1, 1, none⟩ (.int .i64 bd) hb f1_3
  have f2_4 := kc ⟨w.heap.size + 1 + 1, 0, none⟩ (.int .i64 cn) hb f1_4
  have f2_5 := kc ⟨w.heap.size + 1 + 1, 1, none⟩ (.int .i64 cd) hb f1_5
  have hB2 : Below w.heap.size w w2 := beyond (hB1) hb
  clear hb f1_0 f1_1 f1_2 f1_3 f1_4 f1_5 hB1
  go_wp2_with fail
  refine (HR2.out _).mono ?_
  rintro e w3 ⟨rfl, hb⟩
  have f3_0 := kc ⟨w.heap.size, 0, none⟩ (.int .i64 an) hb f2_0
  have f3_1 := kc ⟨w.heap.size, 1, none⟩ (.int .i64 ad) hb f2_1
  have f3_2 := kc ⟨w.heap.size + 1, 0, none⟩ (.int .i64 bn) hb f2_2
  have f3_3 := kc ⟨w.heap.size + 1, 1, none⟩ (.int .i64 bd) hb f2_3
  have f3_4 := kc ⟨w.heap.size + 1 + 1, 0, none⟩ (.int .i64 cn) hb f2_4
  have f3_5 := kc ⟨w.heap.size + 1 + 1, 1, none⟩ (.int .i64 cd) hb f2_5
  have hB3 : Below w.heap.size w w3 := beyond (hB2) hb
  clear hb f2_0 f2_1 f2_2 f2_3 f2_4 f2_5 hB2
  go_wp2_with fail
  refine (HC0.out _).mono ?_
  rintro e w4 ⟨rfl, hb⟩
  have f4_0 := kc ⟨w.heap.size, 0, none⟩ (.int .i64 an) hb f3_0
  have f4_1 := kc ⟨w.heap.size, 1, none⟩ (.int .i64 ad) hb f3_1
  have f4_2 := kc ⟨w.heap.size + 1, 0, none⟩ (.int .i64 bn) hb f3_2
  have f4_3 := kc ⟨w.heap.size + 1, 1, none⟩ (.int .i64 bd) hb f3_3
  have f4_4 := kc ⟨w.heap.size + 1 + 1, 0, none⟩ (.int .i64 cn) hb f3_4
  have f4_5 := kc ⟨w.heap.size + 1 + 1, 1, none⟩ (.int .i64 cd) hb f3_5
  have hB4 : Below w.heap.size w w4 := beyond (hB3) hb
  clear hb f3_0 f3_1 f3_2 f3_3 f3_4 f3_5 hB3
  go_wp2_with fail
  refine (HC1.out _).mono ?_
  rintro e w5 ⟨rfl, hb⟩
  have f5_0 := kc ⟨w.heap.size, 0, none⟩ (.int .i64 an) hb f4_0
  have f5_1 := kc ⟨w.heap.size, 1, none⟩ (.int .i64 ad) hb f4_1
  have f5_2 := kc ⟨w.heap.size + 1, 0, none⟩ (.int .i64 bn) hb f4_2
  have f5_3 := kc ⟨w.heap.size + 1, 1, none⟩ (.int .i64 bd) hb f4_3
  have f5_4 := kc ⟨w.heap.size + 1 + 1, 0, none⟩ (.int .i64 cn) hb f4_4
  have f5_5 := kc ⟨w.heap.size + 1 + 1, 1, none⟩ (.int .i64 cd) hb f4_5
  have hB5 : Below w.heap.size w w5 := beyond (hB4) hb
  clear hb f4_0 f4_1 f4_2 f4_3 f4_4 f4_5 hB4
  go_wp2_with fail
  refine (HC2.out _).mono ?_
  rintro e w6 ⟨rfl, hb⟩
  have f6_0 := kc ⟨w.heap.size, 0, none⟩ (.int .i64 an) hb f5_0
  have f6_1 := kc ⟨w.heap.size, 1, none⟩ (.int .i64 ad) hb f5_1
  have f6_2 := kc ⟨w.heap.size + 1, 0, none⟩ (.int .i64 bn) hb f5_2
  have f6_3 := kc ⟨w.heap.size + 1, 1, none⟩ (.int .i64 bd) hb f5_3
  have f6_4 := kc ⟨w.heap.size + 1 + 1, 0, none⟩ (.int .i64 cn) hb f5_4
  have f6_5 := kc ⟨w.heap.size + 1 + 1, 1, none⟩ (.int .i64 cd) hb f5_5
  have hB6 : Below w.heap.size w w6 := beyond (hB5) hb
  clear hb f5_0 f5_1 f5_2 f5_3 f5_4 f5_5 hB5
  go_wp2_with fail
  refine (HS.out _).mono ?_
  rintro e w7 ⟨rfl, hb⟩
  have f7_0 := kc ⟨w.heap.size, 0, none⟩ (.int .i64 an) hb f6_0
  have f7_1 := kc ⟨w.heap.size, 1, none⟩ (.int .i64 ad) hb f6_1
  have f7_2 := kc ⟨w.heap.size + 1, 0, none⟩ (.int .i64 bn) hb f6_2
  have f7_3 := kc ⟨w.heap.size + 1, 1, none⟩ (.int .i64 bd) hb f6_3
  have f7_4 := kc ⟨w.heap.size + 1 + 1, 0, none⟩ (.int .i64 cn) hb f6_4
  have f7_5 := kc ⟨w.heap.size + 1 + 1, 1, none⟩ (.int .i64 cd) hb f6_5
  have hB7 : Below w.heap.size w w7 := beyond (hB6) hb
  clear hb f6_0 f6_1 f6_2 f6_3 f6_4 f6_5 hB6
  have r7_0 : ∀ O, (w7.alloc O).cell? ⟨w.heap.size, 0, none⟩ = some (.int .i64 an) := fun O => kc _ _ (single _ _) f7_0
  have r7_1 : ∀ O, (w7.alloc O).cell? ⟨w.heap.size, 1, none⟩ = some (.int .i64 ad) := fun O => kc _ _ (single _ _) f7_1
  have r7_2 : ∀ O, (w7.alloc O).cell? ⟨w.heap.size + 1, 0, none⟩ = some (.int .i64 bn) := fun O => kc _ _ (single _ _) f7_2
  have r7_3 : ∀ O, (w7.alloc O).cell? ⟨w.heap.size + 1, 1, none⟩ = some (.int .i64 bd) := fun O => kc _ _ (single _ _) f7_3
  have r7_4 : ∀ O, (w7.alloc O).cell? ⟨w.heap.size + 1 + 1, 0, none⟩ = some (.int .i64 cn) := fun O => kc _ _ (single _ _) f7_4
  have r7_5 : ∀ O, (w7.alloc O).cell? ⟨w.heap.size + 1 + 1, 1, none⟩ = some (.int .i64 cd) := fun O => kc _ _ (single _ _) f7_5
  have rB7 : ∀ O, Below w.heap.size w (w7.alloc O) := fun O => beyond hB7 (single _ _)
  go_wp2_with fail
  refine (live_any _ (pow_later ht (rB7 _))).mono ?_
  rintro e w8 ⟨rfl, hb⟩
  have f8_0 := kc ⟨w.heap.size, 0, none⟩ (.int .i64 an) hb (r7_0 _)
  have f8_1 := kc ⟨w.heap.size, 1, none⟩ (.int .i64 ad) hb (r7_1 _)
  have f8_2 := kc ⟨w.heap.size + 1, 0, none⟩ (.int .i64 bn) hb (r7_2 _)
  have f8_3 := kc ⟨w.heap.size + 1, 1, none⟩ (.int .i64 bd) hb (r7_3 _)
  have f8_4 := kc ⟨w.heap.size + 1 + 1, 0, none⟩ (.int .i64 cn) hb (r7_4 _)
  have f8_5 := kc ⟨w.heap.size + 1 + 1, 1, none⟩ (.int .i64 cd) hb (r7_5 _)
  have f8_6 := kc ⟨w7.heap.size, 0, none⟩ (.int .i64 dn) hb (new_cell w7 _ _ 0)
  have f8_7 := kc ⟨w7.heap.size, 1, none⟩ (.int .i64 dd) hb (new_cell w7 _ _ 1)
  have hB8 : Below w.heap.size w w8 := beyond (rB7 _) hb
  clear hb f7_0 f7_1 f7_2 f7_3 f7_4 f7_5 r7_0 r7_1 r7_2 r7_3 r7_4 r7_5 rB7 hB7
  go_wp2_with fail
  refine (HC3.out _).mono ?_
  rintro e w9 ⟨rfl, hb⟩
  have f9_0 := kc ⟨w.heap.size, 0, none⟩ (.int .i64 an) hb f8_0
  have f9_1 := kc ⟨w.heap.size, 1, none⟩ (.int .i64 ad) hb f8_1
  have f9_2 := kc ⟨w.heap.size + 1, 0, none⟩ (.int .i64 bn) hb f8_2
  have f9_3 := kc ⟨w.heap.size + 1, 1, none⟩ (.int .i64 bd) hb f8_3
  have f9_4 := kc ⟨w.heap.size + 1 + 1, 0, none⟩ (.int .i64 cn) hb f8_4
  have f9_5 := kc ⟨w.heap.size + 1 + 1, 1, none⟩ (.int .i64 cd) hb f8_5
  have f9_6 := kc ⟨w7.heap.size, 0, none⟩ (.int .i64 dn) hb f8_6
  have f9_7 := kc ⟨w7.heap.size, 1, none⟩ (.int .i64 dd) hb f8_7
  have hB9 : Below w.heap.size w w9 := beyond (hB8) hb
  clear hb f8_0 f8_1 f8_2 f8_3 f8_4 f8_5 f8_6 f8_7 hB8
  go_wp2_with fail
  go_ret
  exact ⟨rfl, hB9⟩
set_option maxRecDepth 100000 in
set_option maxHeartbeats 4000000 in
theorem orders_ln10 (an ad cn cd dd bn bd dn z : Int) (w : World) (ht : Pow w) (hne : ¬ an = bn) (hdn : dn < 0) (hd0 : ¬ dn = 0) (HR0 : Hid (AskR an ad true)) (HR1 : Hid (AskR bn bd true)) (HR2 : Hid (AskR cn cd true))
    (HC0 : Hid (AskC an ad bn bd (-1))) (HC1 : Hid (AskC bn bd cn cd 1)) (HC2 : Hid (AskC an ad cn cd z)) (HC3 : Hid (AskC bn bd an ad 1))
    (HS : Hid (CallsT 17 an ad bn bd (dn, dd, 0))) :
    Calls Tryd.prog 6 #[rv an ad, rv bn bd, rv cn cd] w fun e w' => e = .returned (.bool true) ∧ Below w.heap.size w w' := by
  go_enter Tryd.func6, Tryd.ntmps6
  go_wp2_with fail
  refine (HR0.out _).mono ?_
  rintro e w1 ⟨rfl, hb⟩
  have f1_0 := kc ⟨w.heap.size, 0, none⟩ (.int .i64 an) hb (by first | assumption | simp [go_sem, *])
  have f1_1 := kc ⟨w.heap.size, 1, none⟩ (.int .i64 ad) hb (by first | assumption | simp [go_sem, *])
  have f1_2 := kc ⟨w.heap.size + 1, 0, none⟩ (.int .i64 bn) hb (by first | assumption | simp [go_sem, *])
  have f1_3 := kc ⟨w.heap.size + 1, 1, none⟩ (.int .i64 bd) hb (by first | assumption | simp [go_sem, *])
  have f1_4 := kc ⟨w.heap.size + 1 + 1, 0, none⟩ (.int .i64 cn) hb (by first | assumption | simp [go_sem, *])
  have f1_5 := kc ⟨w.heap.size + 1 + 1, 1, none⟩ (.int .i64 cd) hb (by first | assumption | simp [go_sem, *])
  have hB1 : Below w.heap.size w w1 := beyond (three w _ _ _) hb
  clear hb
  go_wp2_with fail
  refine (HR1.out _).mono ?_
  rintro e w2 ⟨rfl, hb⟩
  have f2_0 := kc ⟨w.heap.size, 0, none⟩ (.int .i64 an) hb f1_0
  have f2_1 := kc ⟨w.heap.size, 1, none⟩ (.int .i64 ad) hb f1_1
  have f2_2 := kc ⟨w.heap.size + 1, 0, none⟩ (.int .i64 bn) hb f1_2
  have f2_3 := kc ⟨w.heap.size + 1, 1, none⟩ (.int .i64 bd) hb f1_3
  have f2_4 := kc ⟨w.heap.size + 1 + 1, 0, none⟩ (.int .i64 cn) hb f1_4
  have f2_5 := kc ⟨w.heap.size + 1 + 1, 1, none⟩ (.int .i64 cd) hb f1_5
  have hB2 : Below w.heap.size w w2 := beyond (hB1) hb
  clear hb f1_0 f1_1 f1_2 f1_3 f1_4 f1_5 hB1
  go_wp2_with fail
  refine (HR2.out _).mono ?_
  rintro e w3 ⟨rfl, hb⟩
  have f3_0 := kc ⟨w.heap.size, 0, none⟩ (.int .i64 an) hb f2_0
  have f3_1 := kc ⟨w.heap.size, 1, none⟩ (.int .i64 ad) hb f2_1
  have f3_2 := kc ⟨w.heap.size + 1, 0, none⟩ (.int .i64 bn) hb f2_2
  have f3_3 := kc ⟨w.heap.size + 1, 1, none⟩ (.int .i64 bd) hb f2_3
  have f3_4 := kc ⟨w.heap.size + 1 + 1, 0, none⟩ (.int .i64 cn) hb f2_4
  have f3_5 := kc ⟨w.heap.size + 1 + 1, 1, none⟩ (.int .i64 cd) hb f2_5
  have hB3 : Below w.heap.size w w3 := beyond (hB2) hb
  clear hb f2_0 f2_1 f2_2 f2_3 f2_4 f2_5 hB2
  go_wp2_with fail
  refine (HC0.out _).mono ?_
  rintro e w4 ⟨rfl, hb⟩
  have f4_0 := kc ⟨w.heap.size, 0, none⟩ (.int .i64 an) hb f3_0
  have f4_1 := kc ⟨w.heap.size, 1, none⟩ (.int .i64 ad) hb f3_1
  have f4_2 := kc ⟨w.heap.size + 1, 0, none⟩ (.int .i64 bn) hb f3_2
  have f4_3 := kc ⟨w.heap.size + 1, 1, none⟩ (.int .i64 bd) hb f3_3
  have f4_4 := kc ⟨w.heap.size + 1 + 1, 0, none⟩ (.int .i64 cn) hb f3_4
  have f4_5 := kc ⟨w.heap.size + 1 + 1, 1, none⟩ (.int .i64 cd) hb f3_5
  have hB4 : Below w.heap.size w w4 := beyond (hB3) hb
  clear hb f3_0 f3_1 f3_2 f3_3 f3_4 f3_5 hB3
  go_wp2_with fail
  refine (HC1.out _).mono ?_
  rintro e w5 ⟨rfl, hb⟩
  have f5_0 := kc ⟨w.heap.size, 0, none⟩ (.int .i64 an) hb f4_0
  have f5_1 := kc ⟨w.heap.size, 1, none⟩ (.int .i64 ad) hb f4_1
  have f5_2 := kc ⟨w.heap.size + 1, 0, none⟩ (.int .i64 bn) hb f4_2
  have f5_3 := kc ⟨w.heap.size + 1, 1, none⟩ (.int .i64 bd) hb f4_3
  have f5_4 := kc ⟨w.heap.size + 1 + 1, 0, none⟩ (.int .i64 cn) hb f4_4
  have f5_5 := kc ⟨w.heap.size + 1 + 1, 1, none⟩ (.int .i64 cd) hb f4_5
  have hB5 : Below w.heap.size w w5 := beyond (hB4) hb
  clear hb f4_0 f4_1 f4_2 f4_3 f4_4 f4_5 hB4
  go_wp2_with fail
  refine (HC2.out _).mono ?_
  rintro e w6 ⟨rfl, hb⟩
  have f6_0 := kc ⟨w.heap.size, 0, none⟩ (.int .i64 an) hb f5_0
  have f6_1 := kc ⟨w.heap.size, 1, none⟩ (.int .i64 ad) hb f5_1
  have f6_2 := kc ⟨w.heap.size + 1, 0, none⟩ (.int .i64 bn) hb f5_2
  have f6_3 := kc ⟨w.heap.size + 1, 1, none⟩ (.int .i64 bd) hb f5_3
  have f6_4 := kc ⟨w.heap.size + 1 + 1, 0, none⟩ (.int .i64 cn) hb f5_4
  have f6_5 := kc ⟨w.heap.size + 1 + 1, 1, none⟩ (.int .i64 cd) hb f5_5
  have hB6 : Below w.heap.size w w6 := beyond (hB5) hb
  clear hb f5_0 f5_1 f5_2 f5_3 f5_4 f5_5 hB5
  go_wp2_with fail
  refine (HS.out _).mono ?_
  rintro e w7 ⟨rfl, hb⟩
  have f7_0 := kc ⟨w.heap.size, 0, none⟩ (.int .i64 an) hb f6_0
  have f7_1 := kc ⟨w.heap.size, 1, none⟩ (.int .i64 ad) hb f6_1
  have f7_2 := kc ⟨w.heap.size + 1, 0, none⟩ (.int .i64 bn) hb f6_2
  have f7_3 := kc ⟨w.heap.size + 1, 1, none⟩ (.int .i64 bd) hb f6_3
  have f7_4 := kc ⟨w.heap.size + 1 + 1, 0, none⟩ (.int .i64 cn) hb f6_4
  have f7_5 := kc ⟨w.heap.size + 1 + 1, 1, none⟩ (.int .i64 cd) hb f6_5
  have hB7 : Below w.heap.size w w7 := beyond (hB6) hb
  clear hb f6_0 f6_1 f6_2 f6_3 f6_4 f6_5 hB6
  have r7_0 : ∀ O, (w7.alloc O).cell? ⟨w.heap.size, 0, none⟩ = some (.int .i64 an) := fun O => kc _ _ (single _ _) f7_0
  have r7_1 : ∀ O, (w7.alloc O).cell? ⟨w.heap.size, 1, none⟩ = some (.int .i64 ad) := fun O => kc _ _ (single _ _) f7_1
  have r7_2 : ∀ O, (w7.alloc O).cell? ⟨w.heap.size + 1, 0, none⟩ = some (.int .i64 bn) := fun O => kc _ _ (single _ _) f7_2
  have r7_3 : ∀ O, (w7.alloc O).cell? ⟨w.heap.size + 1, 1, none⟩ = some (.int .i64 bd) := fun O => kc _ _ (single _ _) f7_3
  have r7_4 : ∀ O, (w7.alloc O).cell? ⟨w.heap.size + 1 + 1, 0, none⟩ = some (.int .i64 cn) := fun O => kc _ _ (single _ _) f7_4
  have r7_5 : ∀ O, (w7.alloc O).cell? ⟨w.heap.size + 1 + 1, 1, none⟩ = some (.int .i64 cd) := fun O => kc _ _ (single _ _) f7_5
  have rB7 : ∀ O, Below w.heap.size w (w7.alloc O) := fun O => beyond hB7 (single _ _)
  go_wp2_with fail
  refine (live_any _ (pow_later ht (rB7 _))).mono ?_
  rintro e w8 ⟨rfl, hb⟩
  have f8_0 := kc ⟨w.heap.size, 0, none⟩ (.int .i64 an) hb (r7_0 _)
  have f8_1 := kc ⟨w.heap.size, 1, none⟩ (.int .i64 ad) hb (r7_1 _)
  have f8_2 := kc ⟨w.heap.size + 1, 0, none⟩ (.int .i64 bn) hb (r7_2 _)
  have f8_3 := kc ⟨w.heap.size + 1, 1, none⟩ (.int .i64 bd) hb (r7_3 _)
  have f8_4 := kc ⟨w.heap.size + 1 + 1, 0, none⟩ (.int .i64 cn) hb (r7_4 _)
  have f8_5 := kc ⟨w.heap.size + 1 + 1, 1, none⟩ (.int .i64 cd) hb (r7_5 _)
  have f8_6 := kc ⟨w7.heap.size, 0, none⟩ (.int .i64 dn) hb (new_cell w7 _ _ 0)
  have f8_7 := kc ⟨w7.heap.size, 1, none⟩ (.int .i64 dd) hb (new_cell w7 _ _ 1)
  have hB8 : Below w.heap.size w w8 := beyond (rB7 _) hb
  clear hb f7_0 f7_1 f7_2 f7_3 f7_4 f7_5 r7_0 r7_1 r7_2 r7_3 r7_4 r7_5 rB7 hB7
  go_wp2_with fail
  refine (HC3.out _).mono ?_
  rintro e w9 ⟨rfl, hb⟩
  have f9_0 := kc ⟨w.heap.size, 0, none⟩ (.int .i64 an) hb f8_0
  have f9_1 := kc ⟨w.heap.size, 1, none⟩ (.int .i64 ad) hb f8_1
  have f9_2 := kc ⟨w.heap.size + 1, 0, none⟩ (.int .i64 bn) hb f8_2
  have f9_3 := kc ⟨w.heap.size + 1, 1, none⟩ (.int .i64 bd) hb f8_3
  have f9_4 := kc ⟨w.heap.size + 1 + 1, 0, none⟩ (.int .i64 cn) hb f8_4
  have f9_5 := kc ⟨w.heap.size + 1 + 1, 1, none⟩ (.int .i64 cd) hb f8_5
  have f9_6 := kc ⟨w7.heap.size, 0, none⟩ (.int .i64 dn) hb f8_6
  have f9_7 := kc ⟨w7.heap.size, 1, none⟩ (.int .i64 dd) hb f8_7
  have hB9 : Below w.heap.size w w9 := beyond (hB8) hb
  clear hb f8_0 f8_1 f8_2 f8_3 f8_4 f8_5 f8_6 f8_7 hB8
  go_wp2_with fail
  go_ret
  first | exact ⟨rfl, hB9⟩ | exact ⟨by simp [*], hB9⟩ | exact ⟨by simp [go_sem, *], hB9⟩
set_option maxRecDepth 100000 in
set_option maxHeartbeats 4000000 in
theorem orders_ln11 (an ad cn cd dd bn bd dn : Int) (w : World) (ht : Pow w) (hne : ¬ an = bn) (hdn : dn < 0) (hd0 : ¬ dn = 0) (HR0 : Hid (AskR an ad true)) (HR1 : Hid (AskR bn bd true)) (HR2 : Hid (AskR cn cd true))
    (HC0 : Hid (AskC an ad bn bd (-1))) (HC1 : Hid (AskC bn bd cn cd 0)) (HC2 : Hid (AskC an ad cn cd (-1))) (HC3 : Hid (AskC bn bd an ad 1))
    (HS : Hid (CallsT 17 an ad bn bd (dn, dd, 0))) :
    Calls Tryd.prog 6 #[rv an ad, rv bn bd, rv cn cd] w fun e w' => e = .returned (.bool true) ∧ Below w.heap.size w w' := by
  go_enter Tryd.func6, Tryd.ntmps6
  go_wp2_with fail
  refine (HR0.out _).mono ?_
  rintro e w1 ⟨rfl, hb⟩
  have f1_0 := kc ⟨w.heap.size, 0, none⟩ (.int .i64 an) hb (by first | assumption | simp [go_sem, *])
  have f1_1 := kc ⟨w.heap.size, 1, none⟩ (.int .i64 ad) hb (by first | assumption | simp [go_sem, *])
  have f1_2 := kc ⟨w.heap.size + 1, 0, none⟩ (.int .i64 bn) hb (by first | assumption | simp [go_sem, *])
  have f1_3 := kc ⟨w.heap.size + 1, 1, none⟩ (.int .i64 bd) hb (by first | assumption | simp [go_sem, *])
  have f1_4 := kc ⟨w.heap.size + 1 + 1, 0, none⟩ (.int .i64 cn) hb (by first | assumption | simp [go_sem, *])
  have f1_5 := kc ⟨w.heap.size + 1 + 1, 1, none⟩ (.int .i64 cd) hb (by first | assumption | simp [go_sem, *])
  have hB1 : Below w.heap.size w w1 := beyond (three w _ _ _) hb
  clear hb
  go_wp2_with fail
  refine (HR1.out _).mono ?_
  rintro e w2 ⟨rfl, hb⟩
  have f2_0 := kc ⟨w.heap.size, 0, none⟩ (.int .i64 an) hb f1_0
  have f2_1 := kc ⟨w.heap.size, 1, none⟩ (.int .i64 ad) hb f1_1
  have f2_2 := kc ⟨w.heap.size + 1, 0, none⟩ (.int .i64 bn) hb f1_2
  have f2_3 := kc ⟨w.heap.size + 1, 1, none⟩ (.int .i64 bd) hb f1_3
  have f2_4 := kc ⟨w.heap.size + 1 + 1, 0, none⟩ (.int .i64 cn) hb f1_4
  have f2_5 := kc ⟨w.heap.size + 1 + 1, 1, none⟩ (.int .i64 cd) hb f1_5
  have hB2 : Below w.heap.size w w2 := beyond (hB1) hb
  clear hb f1_0 f1_1 f1_2 f1_3 f1_4 f1_5 hB1
  go_wp2_with fail
  refine (HR2.out _).mono ?_
  rintro e w3 ⟨rfl, hb⟩
  have f3_0 := kc ⟨w.heap.size, 0, none⟩ (.int .i64 an) hb f2_0
  have f3_1 := kc ⟨w.heap.size, 1, none⟩ (.int .i64 ad) hb f2_1
  have f3_2 := kc ⟨w.heap.size + 1, 0, none⟩ (.int .i64 bn) hb f2_2
  have f3_3 := kc ⟨w.heap.size + 1, 1, none⟩ (.int .i64 bd) hb f2_3
  have f3_4 := kc ⟨w.heap.size + 1 + 1, 0, none⟩ (.int .i64 cn) hb f2_4
  have f3_5 := kc ⟨w.heap.size + 1 + 1, 1, none⟩ (.int .i64 cd) hb f2_5
  have hB3 : Below w.heap.size w w3 := beyond (hB2) hb
  clear hb f2_0 f2_1 f2_2 f2_3 f2_4 f2_5 hB2
  go_wp2_with fail
  refine (HC0.out _).mono ?_
  rintro e w4 ⟨rfl, hb⟩
  have f4_0 := kc ⟨w.heap.size, 0, none⟩ (.int .i64 an) hb f3_0
  have f4_1 := kc ⟨w.heap.size, 1, none⟩ (.int .i64 ad) hb f3_1
  have f4_2 := kc ⟨w.heap.size + 1, 0, none⟩ (.int .i64 bn) hb f3_2
  have f4_3 := kc ⟨w.heap.size + 1, 1, none⟩ (.int .i64 bd) hb f3_3
  have f4_4 := kc ⟨w.heap.size + 1 + 1, 0, none⟩ (.int .i64 cn) hb f3_4
  have f4_5 := kc ⟨w.heap.size + 1 + 1, 1, none⟩ (.int .i64 cd) hb f3_5
  have hB4 : Below w.heap.size w w4 := beyond (hB3) hb
  clear hb f3_0 f3_1 f3_2 f3_3 f3_4 f3_5 hB3
  go_wp2_with fail
  refine (HC1.out _).mono ?_
  rintro e w5 ⟨rfl, hb⟩
  have f5_0 := kc ⟨w.heap.size, 0, none⟩ (.int .i64 an) hb f4_0
  have f5_1 := kc ⟨w.heap.size, 1, none⟩ (.int .i64 ad) hb f4_1
  have f5_2 := kc ⟨w.heap.size + 1, 0, none⟩ (.int .i64 bn) hb f4_2
  have f5_3 := kc ⟨w.heap.size + 1, 1, none⟩ (.int .i64 bd) hb f4_3
  have f5_4 := kc ⟨w.heap.size + 1 + 1, 0, none⟩ (.int .i64 cn) hb f4_4
  have f5_5 := kc ⟨w.heap.size + 1 + 1, 1, none⟩ (.int .i64 cd) hb f4_5
  have hB5 : Below w.heap.size w w5 := beyond (hB4) hb
  clear hb f4_0 f4_1 f4_2 f4_3 f4_4 f4_5 hB4
  go_wp2_with fail
  refine (HC2.out _).mono ?_
  rintro e w6 ⟨rfl, hb⟩
  have f6_0 := kc ⟨w.heap.size, 0, none⟩ (.int .i64 an) hb f5_0
  have f6_1 := kc ⟨w.heap.size, 1, none⟩ (.int .i64 ad) hb f5_1
  have f6_2 := kc ⟨w.heap.size + 1, 0, none⟩ (.int .i64 bn) hb f5_2
  have f6_3 := kc ⟨w.heap.size + 1, 1, none⟩ (.int .i64 bd) hb f5_3
  have f6_4 := kc ⟨w.heap.size + 1 + 1, 0, none⟩ (.int .i64 cn) hb f5_4
  have f6_5 := kc ⟨w.heap.size + 1 + 1, 1, none⟩ (.int .i64 cd) hb f5_5
  have hB6 : Below w.heap.size w w6 := beyond (hB5) hb
  clear hb f5_0 f5_1 f5_2 f5_3 f5_4 f5_5 hB5
  go_wp2_with fail
  refine (HS.out _).mono ?_
  rintro e w7 ⟨rfl, hb⟩
  have f7_0 := kc ⟨w.heap.size, 0, none⟩ (.int .i64 an) hb f6_0
  have f7_1 := kc ⟨w.heap.size, 1, none⟩ (.int .i64 ad) hb f6_1
  have f7_2 := kc ⟨w.heap.size + 1, 0, none⟩ (.int .i64 bn) hb f6_2
  have f7_3 := kc ⟨w.heap.size + 1, 1, none⟩ (.int .i64 bd) hb f6_3
  have f7_4 := kc ⟨w.heap.size + 1 + 1, 0, none⟩ (.int .i64 cn) hb f6_4
  have f7_5 := kc ⟨w.heap.size + 1 + 1, 1, none⟩ (.int .i64 cd) hb f6_5
  have hB7 : Below w.heap.size w w7 := beyond (hB6) hb
  clear hb f6_0 f6_1 f6_2 f6_3 f6_4 f6_5 hB6
  have r7_0 : ∀ O, (w7.alloc O).cell? ⟨w.heap.size, 0, none⟩ = some (.int .i64 an) := fun O => kc _ _ (single _ _) f7_0
  have r7_1 : ∀ O, (w7.alloc O).cell? ⟨w.heap.size, 1, none⟩ = some (.int .i64 ad) := fun O => kc _ _ (single _ _) f7_1
  have r7_2 : ∀ O, (w7.alloc O).cell? ⟨w.heap.size + 1, 0, none⟩ = some (.int .i64 bn) := fun O => kc _ _ (single _ _) f7_2
  have r7_3 : ∀ O, (w7.alloc O).cell? ⟨w.heap.size + 1, 1, none⟩ = some (.int .i64 bd) := fun O => kc _ _ (single _ _) f7_3
  have r7_4 : ∀ O, (w7.alloc O).cell? ⟨w.heap.size + 1 + 1, 0, none⟩ = some (.int .i64 cn) := fun O => kc _ _ (single _ _) f7_4
  have r7_5 : ∀ O, (w7.alloc O).cell? ⟨w.heap.size + 1 + 1, 1, none⟩ = some (.int .i64 cd) := fun O => kc _ _ (single _ _) f7_5
  have rB7 : ∀ O, Below w.heap.size w (w7.alloc O) := fun O => beyond hB7 (single _ _)
  go_wp2_with fail
  refine (live_any _ (pow_later ht (rB7 _))).mono ?_
  rintro e w8 ⟨rfl, hb⟩
  have f8_0 := kc ⟨w.heap.size, 0, none⟩ (.int .i64 an) hb (r7_0 _)
  have f8_1 := kc ⟨w.heap.size, 1, none⟩ (.int .i64 ad) hb (r7_1 _)
  have f8_2 := kc ⟨w.heap.size + 1, 0, none⟩ (.int .i64 bn) hb (r7_2 _)
  have f8_3 := kc ⟨w.heap.size + 1, 1, none⟩ (.int .i64 bd) hb (r7_3 _)
  have f8_4 := kc ⟨w.heap.size + 1 + 1, 0, none⟩ (.int .i64 cn) hb (r7_4 _)
  have f8_5 := kc ⟨w.heap.size + 1 + 1, 1, none⟩ (.int .i64 cd) hb (r7_5 _)
  have f8_6 := kc ⟨w7.heap.size, 0, none⟩ (.int .i64 dn) hb (new_cell w7 _ _ 0)
  have f8_7 := kc ⟨w7.heap.size, 1, none⟩ (.int .i64 dd) hb (new_cell w7 _ _ 1)
  have hB8 : Below w.heap.size w w8 := beyond (rB7 _) hb
  clear hb f7_0 f7_1 f7_2 f7_3 f7_4 f7_5 r7_0 r7_1 r7_2 r7_3 r7_4 r7_5 rB7 hB7
  go_wp2_with fail
  refine (HC3.out _).mono ?_
  rintro e w9 ⟨rfl, hb⟩
  have f9_0 := kc ⟨w.heap.size, 0, none⟩ (.int .i64 an) hb f8_0
  have f9_1 := kc ⟨w.heap.size, 1, none⟩ (.int .i64 ad) hb f8_1
  have f9_2 := kc ⟨w.heap.size + 1, 0, none⟩ (.int .i64 bn) hb f8_2
  have f9_3 := kc ⟨w.heap.size + 1, 1, none⟩ (.int .i64 bd) hb f8_3
  have f9_4 := kc ⟨w.heap.size + 1 + 1, 0, none⟩ (.int .i64 cn) hb f8_4
  have f9_5 := kc ⟨w.heap.size + 1 + 1, 1, none⟩ (.int .i64 cd) hb f8_5
  have f9_6 := kc ⟨w7.heap.size, 0, none⟩ (.int .i64 dn) hb f8_6
  have f9_7 := kc ⟨w7.heap.size, 1, none⟩ (.int .i64 dd) hb f8_7
  have hB9 : Below w.heap.size w w9 := beyond (hB8) hb
  clear hb f8_0 f8_1 f8_2 f8_3 f8_4 f8_5 f8_6 f8_7 hB8
  go_wp2_with fail
  go_ret
  first | exact ⟨rfl, hB9⟩ | exact ⟨by simp [*], hB9⟩ | exact ⟨by simp [go_sem, *], hB9⟩
set_option maxRecDepth 100000 in
set_option maxHeartbeats 4000000 in
theorem orders_ln12 (an ad cn cd dd bn bd dn : Int) (w : World) (ht : Pow w) (hne : ¬ an = bn) (hdn : dn < 0) (hd0 : ¬ dn = 0) (HR0 : Hid (AskR an ad true)) (HR1 : Hid (AskR bn bd true)) (HR2 : Hid (AskR cn cd true))
    (HC0 : Hid (AskC an ad bn bd (-1))) (HC1 : Hid (AskC bn bd cn cd (-1))) (HC2 : Hid (AskC an ad cn cd (-1))) (HC3 : Hid (AskC bn bd an ad 1))
    (HS : Hid (CallsT 17 an ad bn bd (dn, dd, 0))) :
    Calls Tryd.prog 6 #[rv an ad, rv bn bd, rv cn cd] w fun e w' => e = .returned (.bool true) ∧ Below w.heap.size w w' := by
  go_enter Tryd.func6, Tryd.ntmps6
  go_wp2_with fail
  refine (HR0.out _).mono ?_
  rintro e w1 ⟨rfl, hb⟩
  have f1_0 := kc ⟨w.heap.size, 0, none⟩ (.int .i64 an) hb (by first | assumption | simp [go_sem, *])
  have f1_1 := kc ⟨w.heap.size, 1, none⟩ (.int .i64 ad) hb (by first | assumption | simp [go_sem, *])
  have f1_2 := kc ⟨w.heap.size + 1, 0, none⟩ (.int .i64 bn) hb (by first | assumption | simp [go_sem, *])
  have f1_3 := kc ⟨w.heap.size + 1, 1, none⟩ (.int .i64 bd) hb (by first | assumption | simp [go_sem, *])
  have f1_4 := kc ⟨w.heap.size + 1 + 1, 0, none⟩ (.int .i64 cn) hb (by first | assumption | simp [go_sem, *])
  have f1_5 := kc ⟨w.heap.size + 1 + 1, 1, none⟩ (.int .i64 cd) hb (by first | assumption | simp [go_sem, *])
  have hB1 : Below w.heap.size w w1 := beyond (three w _ _ _) hb
  clear hb
  go_wp2_with fail
  refine (HR1.out _).mono ?_
  rintro e w2 ⟨rfl, hb⟩
  have f2_0 := kc ⟨w.heap.size, 0, none⟩ (.int .i64 an) hb f1_0
  have f2_1 := kc ⟨w.heap.size, 1, none⟩ (.int .i64 ad) hb f1_1
  have f2_2 := kc ⟨w.heap.size + 1, 0, none⟩ (.int .i64 bn) hb f1_2
  have f2_3 := kc ⟨w.heap.size + 1, 1, none⟩ (.int .i64 bd) hb f1_3
  have f2_4 := kc ⟨w.heap.size + 1 + 1, 0, none⟩ (.int .i64 cn) hb f1_4
  have f2_5 := kc ⟨w.heap.size + 1 + 1, 1, none⟩ (.int .i64 cd) hb f1_5
  have hB2 : Below w.heap.size w w2 := beyond (hB1) hb
  clear hb f1_0 f1_1 f1_2 f1_3 f1_4 f1_5 hB1
  go_wp2_with fail
  refine (HR2.out _).mono ?_
  rintro e w3 ⟨rfl, hb⟩
  have f3_0 := kc ⟨w.heap.size, 0, none⟩ (.int .i64 an) hb f2_0
  have f3_1 := kc ⟨w.heap.size, 1, none⟩ (.int .i64 ad) hb f2_1
  have f3_2 := kc ⟨w.heap.size + 1, 0, none⟩ (.int .i64 bn) hb f2_2
  have f3_3 := kc ⟨w.heap.size + 1, 1, none⟩ (.int .i64 bd) hb f2_3
  have f3_4 := kc ⟨w.heap.size + 1 + 1, 0, none⟩ (.int .i64 cn) hb f2_4
  have f3_5 := kc ⟨w.heap.size + 1 + 1, 1, none⟩ (.int .i64 cd) hb f2_5
  have hB3 : Below w.heap.size w w3 := beyond (hB2) hb
  clear hb f2_0 f2_1 f2_2 f2_3 f2_4 f2_5 hB2
  go_wp2_with fail
  refine (HC0.out _).mono ?_
  rintro e w4 ⟨rfl, hb⟩
  have f4_0 := kc ⟨w.heap.size, 0, none⟩ (.int .i64 an) hb f3_0
  have f4_1 := kc ⟨w.heap.size, 1, none⟩ (.int .i64 ad) hb f3_1
  have f4_2 := kc ⟨w.heap.size + 1, 0, none⟩ (.int .i64 bn) hb f3_2
  have f4_3 := kc ⟨w.heap.size + 1, 1, none⟩ (.int .i64 bd) hb f3_3
  have f4_4 := kc ⟨w.heap.size + 1 + 1, 0, none⟩ (.int .i64 cn) hb f3_4
  have f4_5 := kc ⟨w.heap.size + 1 + 1, 1, none⟩ (.int .i64 cd) hb f3_5
  have hB4 : Below w.heap.size w w4 := beyond (hB3) hb
  clear hb f3_0 f3_1 f3_2 f3_3 f3_4 f3_5 hB3
  go_wp2_with fail
  refine (HC1.out _).mono ?_
  rintro e w5 ⟨rfl, hb⟩
  have f5_0 := kc ⟨w.heap.size, 0, none⟩ (.int .i64 an) hb f4_0
  have f5_1 := kc ⟨w.heap.size, 1, none⟩ (.int .i64 ad) hb f4_1
  have f5_2 := kc ⟨w.heap.size + 1, 0, none⟩ (.int .i64 bn) hb f4_2
  have f5_3 := kc ⟨w.heap.size + 1, 1, none⟩ (.int .i64 bd) hb f4_3
  have f5_4 := kc ⟨w.heap.size + 1 + 1, 0, none⟩ (.int .i64 cn) hb f4_4
  have f5_5 := kc ⟨w.heap.size + 1 + 1, 1, none⟩ (.int .i64 cd) hb f4_5
  have hB5 : Below w.heap.size w w5 := beyond (hB4) hb
  clear hb f4_0 f4_1 f4_2 f4_3 f4_4 f4_5 hB4
  go_wp2_with fail
  refine (HC2.out _).mono ?_
  rintro e w6 ⟨rfl, hb⟩
  have f6_0 := kc ⟨w.heap.size, 0, none⟩ (.int .i64 an) hb f5_0
  have f6_1 := kc ⟨w.heap.size, 1, none⟩ (.int .i64 ad) hb f5_1
  have f6_2 := kc ⟨w.heap.size + 1, 0, none⟩ (.int .i64 bn) hb f5_2
  have f6_3 := kc ⟨w.heap.size + 1, 1, none⟩ (.int .i64 bd) hb f5_3
  have f6_4 := kc ⟨w.heap.size + 1 + 1, 0, none⟩ (.int .i64 cn) hb f5_4
  have f6_5 := kc ⟨w.heap.size + 1 + 1, 1, none⟩ (.int .i64 cd) hb f5_5
  have hB6 : Below w.heap.size w w6 := beyond (hB5) hb
  clear hb f5_0 f5_1 f5_2 f5_3 f5_4 f5_5 hB5
  go_wp2_with fail
  refine (HS.out _).mono ?_
  rintro e w7 ⟨rfl, hb⟩
  have f7_0 := kc ⟨w.heap.size, 0, none⟩ (.int .i64 an) hb f6_0
  have f7_1 := kc ⟨w.heap.size, 1, none⟩ (.int .i64 ad) hb f6_1
  have f7_2 := kc ⟨w.heap.size + 1, 0, none⟩ (.int .i64 bn) hb f6_2
  have f7_3 := kc ⟨w.heap.size + 1, 1, none⟩ (.int .i64 bd) hb f6_3
  have f7_4 := kc ⟨w.heap.size + 1 + 1, 0, none⟩ (.int .i64 cn) hb f6_4
  have f7_5 := kc ⟨w.heap.size + 1 + 1, 1, none⟩ (.int .i64 cd) hb f6_5
  have hB7 : Below w.heap.size w w7 := beyond (hB6) hb
  clear hb f6_0 f6_1 f6_2 f6_3 f6_4 f6_5 hB6
  have r7_0 : ∀ O, (w7.alloc O).cell? ⟨w.heap.size, 0, none⟩ = some (.int .i64 an) := fun O => kc _ _ (single _ _) f7_0
  have r7_1 : ∀ O, (w7.alloc O).cell? ⟨w.heap.size, 1, none⟩ = some (.int .i64 ad) := fun O => kc _ _ (single _ _) f7_1
  have r7_2 : ∀ O, (w7.alloc O).cell? ⟨w.heap.size + 1, 0, none⟩ = some (.int .i64 bn) := fun O => kc _ _ (single _ _) f7_2
  have r7_3 : ∀ O, (w7.alloc O).cell? ⟨w.heap.size + 1, 1, none⟩ = some (.int .i64 bd) := fun O => kc _ _ (single _ _) f7_3
  have r7_4 : ∀ O, (w7.alloc O).cell? ⟨w.heap.size + 1 + 1, 0, none⟩ = some (.int .i64 cn) := fun O => kc _ _ (single _ _) f7_4
  have r7_5 : ∀ O, (w7.alloc O).cell? ⟨w.heap.size + 1 + 1, 1, none⟩ = some (.int .i64 cd) := fun O => kc _ _ (single _ _) f7_5
  have rB7 : ∀ O, Below w.heap.size w (w7.alloc O) := fun O => beyond hB7 (single _ _)
  go_wp2_with fail
  refine (live_any _ (pow_later ht (rB7 _))).mono ?_
  rintro e w8 ⟨rfl, hb⟩
  have f8_0 := kc ⟨w.heap.size, 0, none⟩ (.int .i64 an) hb (r7_0 _)
  have f8_1 := kc ⟨w.heap.size, 1, none⟩ (.int .i64 ad) hb (r7_1 _)
  have f8_2 := kc ⟨w.heap.size + 1, 0, none⟩ (.int .i64 bn) hb (r7_2 _)
  have f8_3 := kc ⟨w.heap.size + 1, 1, none⟩ (.int .i64 bd) hb (r7_3 _)
  have f8_4 := kc ⟨w.heap.size + 1 + 1, 0, none⟩ (.int .i64 cn) hb (r7_4 _)
  have f8_5 := kc ⟨w.heap.size + 1 + 1, 1, none⟩ (.int .i64 cd) hb (r7_5 _)
  have f8_6 := kc ⟨w7.heap.size, 0, none⟩ (.int .i64 dn) hb (new_cell w7 _ _ 0)
  have f8_7 := kc ⟨w7.heap.size, 1, none⟩ (.int .i64 dd) hb (new_cell w7 _ _ 1)
  have hB8 : Below w.heap.size w w8 := beyond (rB7 _) hb
  clear hb f7_0 f7_1 f7_2 f7_3 f7_4 f7_5 r7_0 r7_1 r7_2 r7_3 r7_4 r7_5 rB7 hB7
  go_wp2_with fail
  refine (HC3.out _).mono ?_
  rintro e w9 ⟨rfl, hb⟩
  have f9_0 := kc ⟨w.heap.size, 0, none⟩ (.int .i64 an) hb f8_0
  have f9_1 := kc ⟨w.heap.size, 1, none⟩ (.int .i64 ad) hb f8_1
  have f9_2 := kc ⟨w.heap.size + 1, 0, none⟩ (.int .i64 bn) hb f8_2
  have f9_3 := kc ⟨w.heap.size + 1, 1, none⟩ (.int .i64 bd) hb f8_3
  have f9_4 := kc ⟨w.heap.size + 1 + 1, 0, none⟩ (.int .i64 cn) hb f8_4
  have f9_5 := kc ⟨w.heap.size + 1 + 1, 1, none⟩ (.int .i64 cd) hb f8_5
  have f9_6 := kc ⟨w7.heap.size, 0, none⟩ (.int .i64 dn) hb f8_6
  have f9_7 := kc ⟨w7.heap.size, 1, none⟩ (.int .i64 dd) hb f8_7
  have hB9 : Below w.heap.size w w9 := beyond (hB8) hb
  clear hb f8_0 f8_1 f8_2 f8_3 f8_4 f8_5 f8_6 f8_7 hB8
  go_wp2_with fail
  go_ret
  first | exact ⟨rfl, hB9⟩ | exact ⟨by simp [*], hB9⟩ | exact ⟨by simp [go_sem, *], hB9⟩
set_option maxRecDepth 100000 in
set_option maxHeartbeats 4000000 in
theorem orders_gn1 (an ad cn cd dd bn bd dn y z : Int) (w : World) (ht : Pow w) (hne : ¬ an = bn) (hdn : ¬ dn < 0) (hd0 : ¬ dn = 0) (HR0 : Hid (AskR an ad true)) (HR1 : Hid (AskR bn bd true)) (HR2 : Hid (AskR cn cd true))
    (HC0 : Hid (AskC an ad bn bd 1)) (HC1 : Hid (AskC bn bd cn cd y)) (HC2 : Hid (AskC an ad cn cd z)) (HC3 : Hid (AskC bn bd an ad (-1)))
    (HS : Hid (CallsT 17 an ad bn bd (dn, dd, 0))) :
    Calls Tryd.prog 6 #[rv an ad, rv bn bd, rv cn cd] w fun e w' => e = .returned (.bool true) ∧ Below w.heap.size w w' := by
  go_enter Tryd.func6, Tryd.ntmps6
  go_wp2_with fail
  refine (HR0.out _).mono ?_
  rintro e w1 ⟨rfl, hb⟩
  have f1_0 := kc ⟨w.heap.size, 0, none⟩ (.int .i64 an) hb (by first | assumption | simp [go_sem, *])
  have f1_1 := kc ⟨w.heap.size, 1, none⟩ (.int .i64 ad) hb (by first | assumption | simp [go_sem, *])
  have f1_2 := kc ⟨w.heap.size + 1, 0, none⟩ (.int .i64 bn) hb (by first | assumption | simp [go_sem, *])
  have f1_3 := kc ⟨w.heap.size + 1, 1, none⟩ (.int .i64 bd) hb (by first | assumption | simp [go_sem, *])
  have f1_4 := kc ⟨w.heap.size + 1 + 1, 0, none⟩ (.int .i64 cn) hb (by first | assumption | simp [go_sem, *])
  have f1_5 := kc ⟨w.heap.size + 1 + 1, 1, none⟩ (.int .i64 cd) hb (by first | assumption | simp [go_sem, *])
  have hB1 : Below w.heap.size w w1 := beyond (three w _ _ _) hb
  clear hb
  go_wp2_with fail
  refine (HR1.out _).mono ?_
  rintro e w2 ⟨rfl, hb⟩
  have f2_0 := kc ⟨w.heap.size, 0, none⟩ (.int .i64 an) hb f1_0
  have f2_1 := kc ⟨w.heap.size, 1, none⟩ (.int .i64 ad) hb f1_1
  have f2_2 := kc ⟨w.heap.size + 1, 0, none⟩ (.int .i64 bn) hb f1_2
  have f2_3 := kc ⟨w.heap.size + 1, 1, none⟩ (.int .i64 bd) hb f1_3
  have f2_4 := kc ⟨w.heap.size + 1 + 1, 0, none⟩ (.int .i64 cn) hb f1_4
  have f2_5 := kc ⟨w.heap.size + 1 + 1, 1, none⟩ (.int .i64 cd) hb f1_5
  have hB2 : Below w.heap.size w w2 := beyond (hB1) hb
  clear hb f1_0 f1_1 f1_2 f1_3 f1_4 f1_5 hB1
  go_wp2_with fail
  refine (HR2.out _).mono ?_
  rintro e w3 ⟨rfl, hb⟩
  have f3_0 := kc ⟨w.heap.size, 0, none⟩ (.int .i64 an) hb f2_0
  have f3_1 := kc ⟨w.heap.size, 1, none⟩ (.int .i64 ad) hb f2_1
  have f3_2 := kc ⟨w.heap.size + 1, 0, none⟩ (.int .i64 bn) hb f2_2
  have f3_3 := kc ⟨w.heap.size + 1, 1, none⟩ (.int .i64 bd) hb f2_3
  have f3_4 := kc ⟨w.heap.size + 1 + 1, 0, none⟩ (.int .i64 cn) hb f2_4
  have f3_5 := kc ⟨w.heap.size + 1 + 1, 1, none⟩ (.int .i64 cd) hb f2_5
  have hB3 : Below w.heap.size w w3 := beyond (hB2) hb
  clear hb f2_0 f2_1 f2_2 f2_3 f2_4 f2_5 hB2
  go_wp2_with fail
  refine (HC0.out _).mono ?_
  rintro e w4 ⟨rfl, hb⟩
  have f4_0 := kc ⟨w.heap.size, 0, none⟩ (.int .i64 an) hb f3_0
  have f4_1 := kc ⟨w.heap.size, 1, none⟩ (.int .i64 ad) hb f3_1
  have f4_2 := kc ⟨w.heap.size + 1, 0, none⟩ (.int .i64 bn) hb f3_2
  have f4_3 := kc ⟨w.heap.size + 1, 1, none⟩ (.int .i64 bd) hb f3_3
  have f4_4 := kc ⟨w.heap.size + 1 + 1, 0, none⟩ (.int .i64 cn) hb f3_4
  have f4_5 := kc ⟨w.heap.size + 1 + 1, 1, none⟩ (.int .i64 cd) hb f3_5
  have hB4 : Below w.heap.size w w4 := beyond (hB3) hb
  clear hb f3_0 f3_1 f3_2 f3_3 f3_4 f3_5 hB3
  go_wp2_with fail
  refine (HC1.out _).mono ?_
  rintro e w5 ⟨rfl, hb⟩
  have f5_0 := kc ⟨w.heap.size, 0, none⟩ (.int .i64 an) hb f4_0
  have f5_1 := kc ⟨w.heap.size, 1, none⟩ (.int .i64 ad) hb f4_1
  have f5_2 := kc ⟨w.heap.size + 1, 0, none⟩ (.int .i64 bn) hb f4_2
  have f5_3 := kc ⟨w.heap.size + 1, 1, none⟩ (.int .i64 bd) hb f4_3
  have f5_4 := kc ⟨w.heap.size + 1 + 1, 0, none⟩ (.int .i64 cn) hb f4_4
  have f5_5 := kc ⟨w.heap.size + 1 + 1, 1, none⟩ (.int .i64 cd) hb f4_5
  have hB5 : Below w.heap.size w w5 := beyond (hB4) hb
  clear hb f4_0 f4_1 f4_2 f4_3 f4_4 f4_5 hB4
  go_wp2_with fail
  refine (HC2.out _).mono ?_
  rintro e w6 ⟨rfl, hb⟩
  have f6_0 := kc ⟨w.heap.size, 0, none⟩ (.int .i64 an) hb f5_0
  have f6_1 := kc ⟨w.heap.size, 1, none⟩ (.int .i64 ad) hb f5_1
  have f6_2 := kc ⟨w.heap.size + 1, 0, none⟩ (.int .i64 bn) hb f5_2
  have f6_3 := kc ⟨w.heap.size + 1, 1, none⟩ (.int .i64 bd) hb f5_3
  have f6_4 := kc ⟨w.heap.size + 1 + 1, 0, none⟩ (.int .i64 cn) hb f5_4
  have f6_5 := kc ⟨w.heap.size + 1 + 1, 1, none⟩ (.int .i64 cd) hb f5_5
  have hB6 : Below w.heap.size w w6 := beyond (hB5) hb
  clear hb f5_0 f5_1 f5_2 f5_3 f5_4 f5_5 hB5
  go_wp2_with fail
  refine (HS.out _).mono ?_
  rintro e w7 ⟨rfl, hb⟩
  have f7_0 := kc ⟨w.heap.size, 0, none⟩ (.int .i64 an) hb f6_0
  have f7_1 := kc ⟨w.heap.size, 1, none⟩ (.int .i64 ad) hb f6_1
  have f7_2 := kc ⟨w.heap.size + 1, 0, none⟩ (.int .i64 bn) hb f6_2
  have f7_3 := kc ⟨w.heap.size + 1, 1, none⟩ (.int .i64 bd) hb f6_3
  have f7_4 := kc ⟨w.heap.size + 1 + 1, 0, none⟩ (.int .i64 cn) hb f6_4
  have f7_5 := kc ⟨w.heap.size + 1 + 1, 1, none⟩ (.int .i64 cd) hb f6_5
  have hB7 : Below w.heap.size w w7 := beyond (hB6) hb
  clear hb f6_0 f6_1 f6_2 f6_3 f6_4 f6_5 hB6
  have r7_0 : ∀ O, (w7.alloc O).cell? ⟨w.heap.size, 0, none⟩ = some (.int .i64 an) := fun O => kc _ _ (single _ _) f7_0
  have r7_1 : ∀ O, (w7.alloc O).cell? ⟨w.heap.size, 1, none⟩ = some (.int .i64 ad) := fun O => kc _ _ (single _ _) f7_1
  have r7_2 : ∀ O, (w7.alloc O).cell? ⟨w.heap.size + 1, 0, none⟩ = some (.int .i64 bn) := fun O => kc _ _ (single _ _) f7_2
  have r7_3 : ∀ O, (w7.alloc O).cell? ⟨w.heap.size + 1, 1, none⟩ = some (.int .i64 bd) := fun O => kc _ _ (single _ _) f7_3
  have r7_4 : ∀ O, (w7.alloc O).cell? ⟨w.heap.size + 1 + 1, 0, none⟩ = some (.int .i64 cn) := fun O => kc _ _ (single _ _) f7_4
  have r7_5 : ∀ O, (w7.alloc O).cell? ⟨w.heap.size + 1 + 1, 1, none⟩ = some (.int .i64 cd) := fun O => kc _ _ (single _ _) f7_5
  have rB7 : ∀ O, Below w.heap.size w (w7.alloc O) := fun O => beyond hB7 (single _ _)
  go_wp2_with fail
  refine (live_any _ (pow_later ht (rB7 _))).mono ?_
  rintro e w8 ⟨rfl, hb⟩
  have f8_0 := kc ⟨w.heap.size, 0, none⟩ (.int .i64 an) hb (r7_0 _)
  have f8_1 := kc ⟨w.heap.size, 1, none⟩ (.int .i64 ad) hb (r7_1 _)
  have f8_2 := kc ⟨w.heap.size + 1, 0, none⟩ (.int .i64 bn) hb (r7_2 _)
  have f8_3 := kc ⟨w.heap.size + 1, 1, none⟩ (.int .i64 bd) hb (r7_3 _)
  have f8_4 := kc ⟨w.heap.size + 1 + 1, 0, none⟩ (.int .i64 cn) hb (r7_4 _)
  have f8_5 := kc ⟨w.heap.size + 1 + 1, 1, none⟩ (.int .i64 cd) hb (r7_5 _)
  have f8_6 := kc ⟨w7.heap.size, 0, none⟩ (.int .i64 dn) hb (new_cell w7 _ _ 0)
  have f8_7 := kc ⟨w7.heap.size, 1, none⟩ (.int .i64 dd) hb (new_cell w7 _ _ 1)
  have hB8 : Below w.heap.size w w8 := beyond (rB7 _) hb
  clear hb f7_0 f7_1 f7_2 f7_3 f7_4 f7_5 r7_0 r7_1 r7_2 r7_3 r7_4 r7_5 rB7 hB7
  go_wp2_with fail
  refine (HC3.out _).mono ?_
  rintro e w9 ⟨rfl, hb⟩
  have f9_0 := kc ⟨w.heap.size, 0, none⟩ (.int .i64 an) hb f8_0
  have f9_1 := kc ⟨w.heap.size, 1, none⟩ (.int .i64 ad) hb f8_1
  have f9_2 := kc ⟨w.heap.size + 1, 0, none⟩ (.int .i64 bn) hb f8_2
  have f9_3 := kc ⟨w.heap.size + 1, 1, none⟩ (.int .i64 bd) hb f8_3
  have f9_4 := kc ⟨w.heap.size + 1 + 1, 0, none⟩ (.int .i64 cn) hb f8_4
  have f9_5 := kc ⟨w.heap.size + 1 + 1, 1, none⟩ (.int .i64 cd) hb f8_5
  have f9_6 := kc ⟨w7.heap.size, 0, none⟩ (.int .i64 dn) hb f8_6
  have f9_7 := kc ⟨w7.heap.size, 1, none⟩ (.int .i64 dd) hb f8_7
  have hB9 : Below w.heap.size w w9 := beyond (hB8) hb
  clear hb f8_0 f8_1 f8_2 f8_3 f8_4 f8_5 f8_6 f8_7 hB8
  go_wp2_with fail
  go_ret
  first | exact ⟨rfl, hB9⟩ | exact ⟨by simp [*], hB9⟩ | exact ⟨by simp [go_sem, *], hB9⟩
set_option maxRecDepth 100000 in
set_option maxHeartbeats 4000000 in
theorem orders_ld00 (an ad cn cd dd bd e dn z : Int) (w : World) (ht : Pow w) (hne : ¬ ad = bd) (he : ¬ e = 0) (HR0 : Hid (AskR an ad true)) (HR1 : Hid (AskR an bd true)) (HR2 : Hid (AskR cn cd true))
    (HC0 : Hid (AskC an ad an bd (-1))) (HC1 : Hid (AskC an bd cn cd 1)) (HC2 : Hid (AskC an ad cn cd z)) (HC3 : Hid (AskC an bd an ad 1))
    (HS : Hid (CallsT 17 an ad an bd (dn, dd, e))) :
    Calls Tryd.prog 6 #[rv an ad, rv an bd, rv cn cd] w fun e w' => e = .returned (.bool true) ∧ Below w.heap.size w w' := by
  go_enter Tryd.func6, Tryd.ntmps6
  go_wp2_with fail
  refine (HR0.out _).mono ?_
  rintro e w1 ⟨rfl, hb⟩
  have f1_0 := kc ⟨w.heap.size, 0, none⟩ (.int .i64 an) hb (by first | assumption | simp [go_sem, *])
  have f1_1 := kc ⟨w.heap.size, 1, none⟩ (.int .i64 ad) hb (by first | assumption | simp [go_sem, *])
  have f1_2 := kc ⟨w.heap.size + 1, 0, none⟩ (.int .i64 an) hb (by first | assumption | simp [go_sem, *])
  have f1_3 := kc ⟨w.heap.size + 1, 1, none⟩ (.int .i64 bd) hb (by first | assumption | simp [go_sem, *])
  have f1_4 := kc ⟨w.heap.size + 1 + 1, 0, none⟩ (.int .i64 cn) hb (by first | assumption | simp [go_sem, *])
  have f1_5 := kc ⟨w.heap.size + 1 + 1, 1, none⟩ (.int .i64 cd) hb (by first | assumption | simp [go_sem, *])
  have hB1 : Below w.heap.size w w1 := beyond (three w _ _ _) hb
  clear hb
  go_wp2_with fail
  refine (HR1.out _).mono ?_
  rintro e w2 ⟨rfl, hb⟩
  have f2_0 := kc ⟨w.heap.size, 0, none⟩ (.int .i64 an) hb f1_0
  have f2_1 := kc ⟨w.heap.size, 1, none⟩ (.int .i64 ad) hb f1_1
  have f2_2 := kc ⟨w.heap.size + 1, 0, none⟩ (.int .i64 an) hb f1_2
  have f2_3 := kc ⟨w.heap.size + 1, 1, none⟩ (.int .i64 bd) hb f1_3
  have f2_4 := kc ⟨w.heap.size + 1 + 1, 0, none⟩ (.int .i64 cn) hb f1_4
  have f2_5 := kc ⟨w.heap.size + 1 + 1, 1, none⟩ (.int .i64 cd) hb f1_5
  have hB2 : Below w.heap.size w w2 := beyond (hB1) hb
  clear hb f1_0 f1_1 f1_2 f1_3 f1_4 f1_5 hB1
  go_wp2_with fail
  refine (HR2.out _).mono ?_
  rintro e w3 ⟨rfl, hb⟩
  have f3_0 := kc ⟨w.heap.size, 0, none⟩ (.int .i64 an) hb f2_0
  have f3_1 := kc ⟨w.heap.size, 1, none⟩ (.int .i64 ad) hb f2_1
  have f3_2 := kc ⟨w.heap.size + 1, 0, none⟩ (.int .i64 an) hb f2_2
  have f3_3 := kc ⟨w.heap.size + 1, 1, none⟩ (.int .i64 bd) hb f2_3
  have f3_4 := kc ⟨w.heap.size + 1 + 1, 0, none⟩ (.int .i64 cn) hb f2_4
  have f3_5 := kc ⟨w.heap.size + 1 + 1, 1, none⟩ (.int .i64 cd) hb f2_5
  have hB3 : Below w.heap.size w w3 := beyond (hB2) hb
  clear hb f2_0 f2_1 f2_2 f2_3 f2_4 f2_5 hB2
  go_wp2_with fail
  refine (HC0.out _).mono ?_
  rintro e w4 ⟨rfl, hb⟩
  have f4_0 := kc ⟨w.heap.size, 0, none⟩ (.int .i64 an) hb f3_0
  have f4_1 := kc ⟨w.heap.size, 1, none⟩ (.int .i64 ad) hb f3_1
  have f4_2 := kc ⟨w.heap.size + 1, 0, none⟩ (.int .i64 an) hb f3_2
  have f4_3 := kc ⟨w.heap.size + 1, 1, none⟩ (.int .i64 bd) hb f3_3
  have f4_4 := kc ⟨w.heap.size + 1 + 1, 0, none⟩ (.int .i64 cn) hb f3_4
  have f4_5 := kc ⟨w.heap.size + 1 + 1, 1, none⟩ (.int .i64 cd) hb f3_5
  have hB4 : Below w.heap.size w w4 := beyond (hB3) hb
  clear hb f3_0 f3_1 f3_2 f3_3 f3_4 f3_5 hB3
  go_wp2_with fail
  refine (HC1.out _).mono ?_
  rintro e w5 ⟨rfl, hb⟩
  have f5_0 := kc ⟨w.heap.size, 0, none⟩ (.int .i64 an) hb f4_0
  have f5_1 := kc ⟨w.heap.size, 1, none⟩ (.int .i64 ad) hb f4_1
  have f5_2 := kc ⟨w.heap.size + 1, 0, none⟩ (.int .i64 an) hb f4_2
  have f5_3 := kc ⟨w.heap.size + 1, 1, none⟩ (.int .i64 bd) hb f4_3
  have f5_4 := kc ⟨w.heap.size + 1 + 1, 0, none⟩ (.int .i64 cn) hb f4_4
  have f5_5 := kc ⟨w.heap.size + 1 + 1, 1, none⟩ (.int .i64 cd) hb f4_5
  have hB5 : Below w.heap.size w w5 := beyond (hB4) hb
  clear hb f4_0 f4_1 f4_2 f4_3 f4_4 f4_5 hB4
  go_wp2_with fail
  refine (HC2.out _).mono ?_
  rintro e w6 ⟨rfl, hb⟩
  have f6_0 := kc ⟨w.heap.size, 0, none⟩ (.int .i64 an) hb f5_0
  have f6_1 := kc ⟨w.heap.size, 1, none⟩ (.int .i64 ad) hb f5_1
  have f6_2 := kc ⟨w.heap.size + 1, 0, none⟩ (.int .i64 an) hb f5_2
  have f6_3 := kc ⟨w.heap.size + 1, 1, none⟩ (.int .i64 bd) hb f5_3
  have f6_4 := kc ⟨w.heap.size + 1 + 1, 0, none⟩ (.int .i64 cn) hb f5_4
  have f6_5 := kc ⟨w.heap.size + 1 + 1, 1, none⟩ (.int .i64 cd) hb f5_5
  have hB6 : Below w.heap.size w w6 := beyond (hB5) hb
  clear hb f5_0 f5_1 f5_2 f5_3 f5_4 f5_5 hB5
  go_wp2_with fail
  refine (HS.out _).mono ?_
  rintro e w7 ⟨rfl, hb⟩
  have f7_0 := kc ⟨w.heap.size, 0, none⟩ (.int .i64 an) hb f6_0
  have f7_1 := kc ⟨w.heap.size, 1, none⟩ (.int .i64 ad) hb f6_1
  have f7_2 := kc ⟨w.heap.size + 1, 0, none⟩ (.int .i64 an) hb f6_2
  have f7_3 := kc ⟨w.heap.size + 1, 1, none⟩ (.int .i64 bd) hb f6_3
  have f7_4 := kc ⟨w.heap.size + 1 + 1, 0, none⟩ (.int .i64 cn) hb f6_4
  have f7_5 := kc ⟨w.heap.size + 1 + 1, 1, none⟩ (.int .i64 cd) hb f6_5
  have hB7 : Below w.heap.size w w7 := beyond (hB6) hb
  clear hb f6_0 f6_1 f6_2 f6_3 f6_4 f6_5 hB6
  have r7_0 : ∀ O, (w7.alloc O).cell? ⟨w.heap.size, 0, none⟩ = some (.int .i64 an) := fun O => kc _ _ (single _ _) f7_0
  have r7_1 : ∀ O, (w7.alloc O).cell? ⟨w.heap.size, 1, none⟩ = some (.int .i64 ad) := fun O => kc _ _ (single _ _) f7_1
  have r7_2 : ∀ O, (w7.alloc O).cell? ⟨w.heap.size + 1, 0, none⟩ = some (.int .i64 an) := fun O => kc _ _ (single _ _) f7_2
  have r7_3 : ∀ O, (w7.alloc O).cell? ⟨w.heap.size + 1, 1, none⟩ = some (.int .i64 bd) := fun O => kc _ _ (single _ _) f7_3
  have r7_4 : ∀ O, (w7.alloc O).cell? ⟨w.heap.size + 1 + 1, 0, none⟩ = some (.int .i64 cn) := fun O => kc _ _ (single _ _) f7_4
  have r7_5 : ∀ O, (w7.alloc O).cell? ⟨w.heap.size + 1 + 1, 1, none⟩ = some (.int .i64 cd) := fun O => kc _ _ (single _ _) f7_5
  have rB7 : ∀ O, Below w.heap.size w (w7.alloc O) := fun O => beyond hB7 (single _ _)
  go_wp2_with fail
  refine (live_any _ (pow_later ht (rB7 _))).mono ?_
  rintro e w8 ⟨rfl, hb⟩
  have f8_0 := kc ⟨w.heap.size, 0, none⟩ (.int .i64 an) hb (r7_0 _)
  have f8_1 := kc ⟨w.heap.size, 1, none⟩ (.int .i64 ad) hb (r7_1 _)
  have f8_2 := kc ⟨w.heap.size + 1, 0, none⟩ (.int .i64 an) hb (r7_2 _)
  have f8_3 := kc ⟨w.heap.size + 1, 1, none⟩ (.int .i64 bd) hb (r7_3 _)
  have f8_4 := kc ⟨w.heap.size + 1 + 1, 0, none⟩ (.int .i64 cn) hb (r7_4 _)
  have f8_5 := kc ⟨w.heap.size + 1 + 1, 1, none⟩ (.int .i64 cd) hb (r7_5 _)
  have f8_6 := kc ⟨w7.heap.size, 0, none⟩ (.int .i64 dn) hb (new_cell w7 _ _ 0)
  have f8_7 := kc ⟨w7.heap.size, 1, none⟩ (.int .i64 dd) hb (new_cell w7 _ _ 1)
  have hB8 : Below w.heap.size w w8 := beyond (rB7 _) hb
  clear hb f7_0 f7_1 f7_2 f7_3 f7_4 f7_5 r7_0 r7_1 r7_2 r7_3 r7_4 r7_5 rB7 hB7
  go_wp2_with fail
  refine (HC3.out _).mono ?_
  rintro e w9 ⟨rfl, hb⟩
  have f9_0 := kc ⟨w.heap.size, 0, none⟩ (.int .i64 an) hb f8_0
  have f9_1 := kc ⟨w.heap.size, 1, none⟩ (.int .i64 ad) hb f8_1
  have f9_2 := kc ⟨w.heap.size + 1, 0, none⟩ (.int .i64 an) hb f8_2
  have f9_3 := kc ⟨w.heap.size + 1, 1, none⟩ (.int .i64 bd) hb f8_3
  have f9_4 := kc ⟨w.heap.size + 1 + 1, 0, none⟩ (.int .i64 cn) hb f8_4
  have f9_5 := kc ⟨w.heap.size + 1 + 1, 1, none⟩ (.int .i64 cd) hb f8_5
  have f9_6 := kc ⟨w7.heap.size, 0, none⟩ (.int .i64 dn) hb f8_6
  have f9_7 := kc ⟨w7.heap.size, 1, none⟩ (.int .i64 dd) hb f8_7
  have hB9 : Below w.heap.size w w9 := beyond (hB8) hb
  clear hb f8_0 f8_1 f8_2 f8_3 f8_4 f8_5 f8_6 f8_7 hB8
  go_wp2_with fail
  go_ret
  exact ⟨rfl, hB9⟩
set_option maxRecDepth 100000 in
set_option maxHeartbeats 4000000 in
theorem orders_ld01 (an ad cn cd dd bd e dn : Int) (w : World) (ht : Pow w) (hne : ¬ ad = bd) (he : ¬ e = 0) (HR0 : Hid (AskR an ad true)) (HR1 : Hid (AskR an bd true)) (HR2 : Hid (AskR cn cd true))
    (HC0 : Hid (AskC an ad an bd (-1))) (HC1 : Hid (AskC an bd cn cd 0)) (HC2 : Hid (AskC an ad cn cd (-1))) (HC3 : Hid (AskC an bd an ad 1))
    (HS : Hid (CallsT 17 an ad an bd (dn, dd, e))) :
    Calls Tryd.prog 6 #[rv an ad, rv an bd, rv cn cd] w fun e w' => e = .returned (.bool true) ∧ Below w.heap.size w w' := by
  go_enter Tryd.func6, Tryd.ntmps6
  go_wp2_with fail
  refine (HR0.out _).mono ?_
  rintro e w1 ⟨rfl, hb⟩
  have f1_0 := kc ⟨w.heap.size, 0, none⟩ (.int .i64 an) hb (by first | assumption | simp [go_sem, *])
  have f1_1 := kc ⟨w.heap.size, 1, none⟩ (.int .i64 ad) hb (by first | assumption | simp [go_sem, *])
  have f1_2 := kc ⟨w.heap.size + 1, 0, none⟩ (.int .i64 an) hb (by first | assumption | simp [go_sem, *])
  have f1_3 := kc ⟨w.heap.size + 1, 1, none⟩ (.int .i64 bd) hb (by first | assumption | simp [go_sem, *])
  have f1_4 := kc ⟨w.heap.size + 1 + 1, 0, none⟩ (.int .i64 cn) hb (by first | assumption | simp [go_sem, *])
  have f1_5 := kc ⟨w.heap.size + 1 + 1, 1, none⟩ (.int .i64 cd) hb (by first | assumption | simp [go_sem, *])
  have hB1 : Below w.heap.size w w1 := beyond (three w _ _ _) hb
  clear hb
  go_wp2_with fail
  refine (HR1.out _).mono ?_
  rintro e w2 ⟨rfl, hb⟩
  have f2_0 := kc ⟨w.heap.size, 0, none⟩ (.int .i64 an) hb f1_0
  have f2_1 := kc ⟨w.heap.size, 1, none⟩ (.int .i64 ad) hb f1_1
  have f2_2 := kc ⟨w.heap.size + 1, 0, none⟩ (.int .i64 an) hb f1_2
  have f2_3 := kc ⟨w.heap.size + 1, 1, none⟩ (.int .i64 bd) hb f1_3
  have f2_4 := kc ⟨w.heap.size + 1 + 1, 0, none⟩ (.int .i64 cn) hb f1_4
  have f2_5 := kc ⟨w.heap.size + 1 + 1, 1, none⟩ (.int .i64 cd) hb f1_5
  have hB2 : Below w.heap.size w w2 := beyond (hB1) hb
  clear hb f1_0 f1_1 f1_2 f1_3 f1_4 f1_5 hB1
  go_wp2_with fail
  refine (HR2.out _).mono ?_
  rintro e w3 ⟨rfl, hb⟩
  have f3_0 := kc ⟨w.heap.size, 0, none⟩ (.int .i64 an) hb f2_0
  have f3_1 := kc ⟨w.heap.size, 1, none⟩ (.int .i64 ad) hb f2_1
  have f3_2 := kc ⟨w.heap.size + 1, 0, none⟩ (.int .i64 an) hb f2_2
  have f3_3 := kc ⟨w.heap.size + 1, 1, none⟩ (.int .i64 bd) hb f2_3
  have f3_4 := kc ⟨w.heap.size + 1 + 1, 0, none⟩ (.int .i64 cn) hb f2_4
  have f3_5 := kc ⟨w.heap.size + 1 + 1, 1, none⟩ (.int .i64 cd) hb f2_5
  have hB3 : Below w.heap.size w w3 := beyond (hB2) hb
  clear hb f2_0 f2_1 f2_2 f2_3 f2_4 f2_5 hB2
  go_wp2_with fail
  refine (HC0.out _).mono ?_
  rintro e w4 ⟨rfl, hb⟩
  have f4_0 := kc ⟨w.heap.size, 0, none⟩ (.int .i64 an) hb f3_0
  have f4_1 := kc ⟨w.heap.size, 1, none⟩ (.int .i64 ad) hb f3_1
  have f4_2 := kc ⟨w.heap.size + 1, 0, none⟩ (.int .i64 an) hb f3_2
  have f4_3 := kc ⟨w.heap.size + 1, 1, none⟩ (.int .i64 bd) hb f3_3
  have f4_4 := kc ⟨w.heap.size + 1 + 1, 0, none⟩ (.int .i64 cn) hb f3_4
  have f4_5 := kc ⟨w.heap.size + 1 + 1, 1, none⟩ (.int .i64 cd) hb f3_5
  have hB4 : Below w.heap.size w w4 := beyond (hB3) hb
  clear hb f3_0 f3_1 f3_2 f3_3 f3_4 f3_5 hB3
  go_wp2_with fail
  refine (HC1.out _).mono ?_
  rintro e w5 ⟨rfl, hb⟩
  have f5_0 := kc ⟨w.heap.size, 0, none⟩ (.int .i64 an) hb f4_0
  have f5_1 := kc ⟨w.heap.size, 1, none⟩ (.int .i64 ad) hb f4_1
  have f5_2 := kc ⟨w.heap.size + 1, 0, none⟩ (.int .i64 an) hb f4_2
  have f5_3 := kc ⟨w.heap.size + 1, 1, none⟩ (.int .i64 bd) hb f4_3
  have f5_4 := kc ⟨w.heap.size + 1 + 1, 0, none⟩ (.int .i64 cn) hb f4_4
  have f5_5 := kc ⟨w.heap.size + 1 + 1, 1, none⟩ (.int .i64 cd) hb f4_5
  have hB5 : Below w.heap.size w w5 := beyond (hB4) hb
  clear hb f4_0 f4_1 f4_2 f4_3 f4_4 f4_5 hB4
  go_wp2_with fail
  refine (HC2.out _).mono ?_
  rintro e w6 ⟨rfl, hb⟩
  have f6_0 := kc ⟨w.heap.size, 0, none⟩ (.int .i64 an) hb f5_0
  have f6_1 := kc ⟨w.heap.size, 1, none⟩ (.int .i64 ad) hb f5_1
  have f6_2 := kc ⟨w.heap.size + 1, 0, none⟩ (.int .i64 an) hb f5_2
  have f6_3 := kc ⟨w.heap.size + 1, 1, none⟩ (.int .i64 bd) hb f5_3
  have f6_4 := kc ⟨w.heap.size + 1 + 1, 0, none⟩ (.int .i64 cn) hb f5_4
  have f6_5 := kc ⟨w.heap.size + 1 + 1, 1, none⟩ (.int .i64 cd) hb f5_5
  have hB6 : Below w.heap.size w w6 := beyond (hB5) hb
  clear hb f5_0 f5_1 f5_2 f5_3 f5_4 f5_5 hB5
  go_wp2_with fail
  refine (HS.out _).mono ?_
  rintro e w7 ⟨rfl, hb⟩
  have f7_0 := kc ⟨w.heap.size, 0, none⟩ (.int .i64 an) hb f6_0
  have f7_1 := kc ⟨w.heap.size, 1, none⟩ (.int .i64 ad) hb f6_1
  have f7_2 := kc ⟨w.heap.size + 1, 0, none⟩ (.int .i64 an) hb f6_2
  have f7_3 := kc ⟨w.heap.size + 1, 1, none⟩ (.int .i64 bd) hb f6_3
  have f7_4 := kc ⟨w.heap.size + 1 + 1, 0, none⟩ (.int .i64 cn) hb f6_4
  have f7_5 := kc ⟨w.heap.size + 1 + 1, 1, none⟩ (.int .i64 cd) hb f6_5
  have hB7 : Below w.heap.size w w7 := beyond (hB6) hb
  clear hb f6_0 f6_1 f6_2 f6_3 f6_4 f6_5 hB6
  have r7_0 : ∀ O, (w7.alloc O).cell? ⟨w.heap.size, 0, none⟩ = some (.int .i64 an) := fun O => kc _ _ (single _ _) f7_0
  have r7_1 : ∀ O, (w7.alloc O).cell? ⟨w.heap.size, 1, none⟩ = some (.int .i64 ad) := fun O => kc _ _ (single _ _) f7_1
  have r7_2 : ∀ O, (w7.alloc O).cell? ⟨w.heap.size + 1, 0, none⟩ = some (.int .i64 an) := fun O => kc _ _ (single _ _) f7_2
  have r7_3 : ∀ O, (w7.alloc O).cell? ⟨w.heap.size + 1, 1, none⟩ = some (.int .i64 bd) := fun O => kc _ _ (single _ _) f7_3
  have r7_4 : ∀ O, (w7.alloc O).cell? ⟨w.heap.size + 1 + 1, 0, none⟩ = some (.int .i64 cn) := fun O => kc _ _ (single _ _) f7_4
  have r7_5 : ∀ O, (w7.alloc O).cell? ⟨w.heap.size + 1 + 1, 1, none⟩ = some (.int .i64 cd) := fun O => kc _ _ (single _ _) f7_5
  have rB7 : ∀ O, Below w.heap.size w (w7.alloc O) := fun O => beyond hB7 (single _ _)
  go_wp2_with fail
  refine (live_any _ (pow_later ht (rB7 _))).mono ?_
  rintro e w8 ⟨rfl, hb⟩
  have f8_0 := kc ⟨w.heap.size, 0, none⟩ (.int .i64 an) hb (r7_0 _)
  have f8_1 := kc ⟨w.heap.size, 1, none⟩ (.int .i64 ad) hb (r7_1 _)
  have f8_2 := kc ⟨w.heap.size + 1, 0, none⟩ (.int .i64 an) hb (r7_2 _)
  have f8_3 := kc ⟨w.heap.size + 1, 1, none⟩ (.int .i64 bd) hb (r7_3 _)
  have f8_4 := kc ⟨w.heap.size + 1 + 1, 0, none⟩ (.int .i64 cn) hb (r7_4 _)
  have f8_5 := kc ⟨w.heap.size + 1 + 1, 1, none⟩ (.int .i64 cd) hb (r7_5 _)
  have f8_6 := kc ⟨w7.heap.size, 0, none⟩ (.int .i64 dn) hb (new_cell w7 _ _ 0)
  have f8_7 := kc ⟨w7.heap.size, 1, none⟩ (.int .i64 dd) hb (new_cell w7 _ _ 1)
  have hB8 : Below w.heap.size w w8 := beyond (rB7 _) hb
  clear hb f7_0 f7_1 f7_2 f7_3 f7_4 f7_5 r7_0 r7_1 r7_2 r7_3 r7_4 r7_5 rB7 hB7
  go_wp2_with fail
  refine (HC3.out _).mono ?_
  rintro e w9 ⟨rfl, hb⟩
  have f9_0 := kc ⟨w.heap.size, 0, none⟩ (.int .i64 an) hb f8_0
  have f9_1 := kc ⟨w.heap.size, 1, none⟩ (.int .i64 ad) hb f8_1
  have f9_2 := kc ⟨w.heap.size + 1, 0, none⟩ (.int .i64 an) hb f8_2
  have f9_3 := kc ⟨w.heap.size + 1, 1, none⟩ (.int .i64 bd) hb f8_3
  have f9_4 := kc ⟨w.heap.size + 1 + 1, 0, none⟩ (.int .i64 cn) hb f8_4
  have f9_5 := kc ⟨w.heap.size + 1 + 1, 1, none⟩ (.int .i64 cd) hb f8_5
  have f9_6 := kc ⟨w7.heap.size, 0, none⟩ (.int .i64 dn) hb f8_6
  have f9_7 := kc ⟨w7.heap.size, 1, none⟩ (.int .i64 dd) hb f8_7
  have hB9 : Below w.heap.size w w9 := beyond (hB8) hb
  clear hb f8_0 f8_1 f8_2 f8_3 f8_4 f8_5 f8_6 f8_7 hB8
  go_wp2_with fail
  go_ret
  exact ⟨rfl, hB9⟩
set_option maxRecDepth 100000 in
set_option maxHeartbeats 4000000 in
theorem orders_ld02 (an ad cn cd dd bd e dn : Int) (w : World) (ht : Pow w) (hne : ¬ ad = bd) (he : ¬ e = 0) (HR0 : Hid (AskR an ad true)) (HR1 : Hid (AskR an bd true)) (HR2 : Hid (AskR cn cd true))
    (HC0 : Hid (AskC an ad an bd (-1))) (HC1 : Hid (AskC an bd cn cd (-1))) (HC2 : Hid (AskC an ad cn cd (-1))) (HC3 : Hid (AskC an bd an ad 1))
    (HS : Hid (CallsT 17 an ad an bd (dn, dd, e))) :
    Calls Tryd.prog 6 #[rv an ad, rv an bd, rv cn cd] w fun e w' => e = .returned (.bool true) ∧ Below w.heap.size w w' := by
  go_enter Tryd.func6, Tryd.ntmps6
  go_wp2_with fail
  refine (HR0.out _).mono ?_
  rintro e w1 ⟨rfl, hb⟩
  have f1_0 := kc ⟨w.heap.size, 0, none⟩ (.int .i64 an) hb (by first | assumption | simp [go_sem, *])
  have f1_1 := kc ⟨w.heap.size, 1, none⟩ (.int .i64 ad) hb (by first | assumption | simp [go_sem, *])
  have f1_2 := kc ⟨w.heap.size + 1, 0, none⟩ (.int .i64 an) hb (by first | assumption | simp [go_sem, *])
  have f1_3 := kc ⟨w.heap.size + 1, 1, none⟩ (.int .i64 bd) hb (by first | assumption | simp [go_sem, *])
  have f1_4 := kc ⟨w.heap.size + 1 + 1, 0, none⟩ (.int .i64 cn) hb (by first | assumption | simp [go_sem, *])
  have f1_5 := kc ⟨w.heap.size + 1 + 1, 1, none⟩ (.int .i64 cd) hb (by first | assumption | simp [go_sem, *])
  have hB1 : Below w.heap.size w w1 := beyond (three w _ _ _) hb
  clear hb
  go_wp2_with fail
  refine (HR1.out _).mono ?_
  rintro e w2 ⟨rfl, hb⟩
  have f2_0 := kc ⟨w.heap.size, 0, none⟩ (.int .i64 an) hb f1_0
  have f2_1 := kc ⟨w.heap.size, 1, none⟩ (.int .i64 ad) hb f1_1
  have f2_2 := kc ⟨w.heap.size + 1, 0, none⟩ (.int .i64 an) hb f1_2
  have f2_3 := kc ⟨w.heap.size + 1, 1, none⟩ (.int .i64 bd) hb f1_3
  have f2_4 := kc ⟨w.heap.size + 1 + 1, 0, none⟩ (.int .i64 cn) hb f1_4
  have f2_5 := kc ⟨w.heap.size + 1 + 1, 1, none⟩ (.int .i64 cd) hb f1_5
  have hB2 : Below w.heap.size w w2 := beyond (hB1) hb
  clear hb f1_0 f1_1 f1_2 f1_3 f1_4 f1_5 hB1
  go_wp2_with fail
  refine (HR2.out _).mono ?_
  rintro e w3 ⟨rfl, hb⟩
  have f3_0 := kc ⟨w.heap.size, 0, none⟩ (.int .i64 an) hb f2_0
  have f3_1 := kc ⟨w.heap.size, 1, none⟩ (.int .i64 ad) hb f2_1
  have f3_2 := kc ⟨w.heap.size + 1, 0, none⟩ (.int .i64 an) hb f2_2
  have f3_3 := kc ⟨w.heap.size + 1, 1, none⟩ (.int .i64 bd) hb f2_3
  have f3_4 := kc ⟨w.heap.size + 1 + 1, 0, none⟩ (.int .i64 cn) hb f2_4
  have f3_5 := kc ⟨w.heap.size + 1 + 1, 1, none⟩ (.int .i64 cd) hb f2_5
  have hB3 : Below w.heap.size w w3 := beyond (hB2) hb
  clear hb f2_0 f2_1 f2_2 f2_3 f2_4 f2_5 hB2
  go_wp2_with fail
  refine (HC0.out _).mono ?_
  rintro e w4 ⟨rfl, hb⟩
  have f4_0 := kc ⟨w.heap.size, 0, none⟩ (.int .i64 an) hb f3_0
  have f4_1 := kc ⟨w.heap.size, 1, none⟩ (.int .i64 ad) hb f3_1
  have f4_2 := kc ⟨w.heap.size + 1, 0, none⟩ (.int .i64 an) hb f3_2
  have f4_3 := kc ⟨w.heap.size + 1, 1, none⟩ (.int .i64 bd) hb f3_3
  have f4_4 := kc ⟨w.heap.size + 1 + 1, 0, none⟩ (.int .i64 cn) hb f3_4
  have f4_5 := kc ⟨w.heap.size + 1 + 1, 1, none⟩ (.int .i64 cd) hb f3_5
  have hB4 : Below w.heap.size w w4 := beyond (hB3) hb
  clear hb f3_0 f3_1 f3_2 f3_3 f3_4 f3_5 hB3
  go_wp2_with fail
  refine (HC1.out _).mono ?_
  rintro e w5 ⟨rfl, hb⟩
  have f5_0 := kc ⟨w.heap.size, 0, none⟩ (.int .i64 an) hb f4_0
  have f5_1 := kc ⟨w.heap.size, 1, none⟩ (.int .i64 ad) hb f4_1
  have f5_2 := kc ⟨w.heap.size + 1, 0, none⟩ (.int .i64 an) hb f4_2
  have f5_3 := kc ⟨w.heap.size + 1, 1, none⟩ (.int .i64 bd) hb f4_3
  have f5_4 := kc ⟨w.heap.size + 1 + 1, 0, none⟩ (.int .i64 cn) hb f4_4
  have f5_5 := kc ⟨w.heap.size + 1 + 1, 1, none⟩ (.int .i64 cd) hb f4_5
  have hB5 : Below w.heap.size w w5 := beyond (hB4) hb
  clear hb f4_0 f4_1 f4_2 f4_3 f4_4 f4_5 hB4
  go_wp2_with fail
  refine (HC2.out _).mono ?_
  rintro e w6 ⟨rfl, hb⟩
  have f6_0 := kc ⟨w.heap.size, 0, none⟩ (.int .i64 an) hb f5_0
  have f6_1 := kc ⟨w.heap.size, 1, none⟩ (.int .i64 ad) hb f5_1
  have f6_2 := kc ⟨w.heap.size + 1, 0, none⟩ (.int .i64 an) hb f5_2
  have f6_3 := kc ⟨w.heap.size + 1, 1, none⟩ (.int .i64 bd) hb f5_3
  have f6_4 := kc ⟨w.heap.size + 1 + 1, 0, none⟩ (.int .i64 cn) hb f5_4
  have f6_5 := kc ⟨w.heap.size + 1 + 1, 1, none⟩ (.int .i64 cd) hb f5_5
  have hB6 : Below w.heap.size w w6 := beyond (hB5) hb
  clear hb f5_0 f5_1 f5_2 f5_3 f5_4 f5_5 hB5
  go_wp2_with fail
  refine (HS.out _).mono ?_
  rintro e w7 ⟨rfl, hb⟩
  have f7_0 := kc ⟨w.heap.size, 0, none⟩ (.int .i64 an) hb f6_0
  have f7_1 := kc ⟨w.heap.size, 1, none⟩ (.int .i64 ad) hb f6_1
  have f7_2 := kc ⟨w.heap.size + 1, 0, none⟩ (.int .i64 an) hb f6_2
  have f7_3 := kc ⟨w.heap.size + 1, 1, none⟩ (.int .i64 bd) hb f6_3
  have f7_4 := kc ⟨w.heap.size + 1 + 1, 0, none⟩ (.int .i64 cn) hb f6_4
  have f7_5 := kc ⟨w.heap.size + 1 + 1, 1, none⟩ (.int .i64 cd) hb f6_5
  have hB7 : Below w.heap.size w w7 := beyond (hB6) hb
  clear hb f6_0 f6_1 f6_2 f6_3 f6_4 f6_5 hB6
  have r7_0 : ∀ O, (w7.alloc O).cell? ⟨w.heap.size, 0, none⟩ = some (.int .i64 an) := fun O => kc _ _ (single _ _) f7_0
  have r7_1 : ∀ O, (w7.alloc O).cell? ⟨w.heap.size, 1, none⟩ = some (.int .i64 ad) := fun O => kc _ _ (single _ _) f7_1
  have r7_2 : ∀ O, (w7.alloc O).cell? ⟨w.heap.size + 1, 0, none⟩ = some (.int .i64 an) := fun O => kc _ _ (single _ _) f7_2
  have r7_3 : ∀ O, (w7.alloc O).cell? ⟨w.heap.size + 1, 1, none⟩ = some (.int .i64 bd) := fun O => kc _ _ (single _ _) f7_3
  have r7_4 : ∀ O, (w7.alloc O).cell? ⟨w.heap.size + 1 + 1, 0, none⟩ = some (.int .i64 cn) := fun O => kc _ _ (single _ _) f7_4
  have r7_5 : ∀ O, (w7.alloc O).cell? ⟨w.heap.size + 1 + 1, 1, none⟩ = some (.int .i64 cd) := fun O => kc _ _ (single _ _) f7_5
  have rB7 : ∀ O, Below w.heap.size w (w7.alloc O) := fun O => beyond hB7 (single _ _)
  go_wp2_with fail
  refine (live_any _ (pow_later ht (rB7 _))).mono ?_
  rintro e w8 ⟨rfl, hb⟩
  have f8_0 := kc ⟨w.heap.size, 0, none⟩ (.int .i64 an) hb (r7_0 _)
  have f8_1 := kc ⟨w.heap.size, 1, none⟩ (.int .i64 ad) hb (r7_1 _)
  have f8_2 := kc ⟨w.heap.size + 1, 0, none⟩ (.int .i64 an) hb (r7_2 _)
  have f8_3 := kc ⟨w.heap.size + 1, 1, none⟩ (.int .i64 bd) hb (r7_3 _)
  have f8_4 := kc ⟨w.heap.size + 1 + 1, 0, none⟩ (.int .i64 cn) hb (r7_4 _)
  have f8_5 := kc ⟨w.heap.size + 1 + 1, 1, none⟩ (.int .i64 cd) hb (r7_5 _)
  have f8_6 := kc ⟨w7.heap.size, 0, none⟩ (.int .i64 dn) hb (new_cell w7 _ _ 0)
  have f8_7 := kc ⟨w7.heap.size, 1, none⟩ (.int .i64 dd) hb (new_cell w7 _ _ 1)
  have hB8 : Below w.heap.size w w8 := beyond (rB7 _) hb
  clear hb f7_0 f7_1 f7_2 f7_3 f7_4 f7_5 r7_0 r7_1 r7_2 r7_3 r7_4 r7_5 rB7 hB7
  go_wp2_with fail
  refine (HC3.out _).mono ?_
  rintro e w9 ⟨rfl, hb⟩
  have f9_0 := kc ⟨w.heap.size, 0, none⟩ (.int .i64 an) hb f8_0
  have f9_1 := kc ⟨w.heap.size, 1, none⟩ (.int .i64 ad) hb f8_1
  have f9_2 := kc ⟨w.heap.size + 1, 0, none⟩ (.int .i64 an) hb f8_2
  have f9_3 := kc ⟨w.heap.size + 1, 1, none⟩ (.int .i64 bd) hb f8_3
  have f9_4 := kc ⟨w.heap.size + 1 + 1, 0, none⟩ (.int .i64 cn) hb f8_4
  have f9_5 := kc ⟨w.heap.size + 1 + 1, 1, none⟩ (.int .i64 cd) hb f8_5
  have f9_6 := kc ⟨w7.heap.size, 0, none⟩ (.int .i64 dn) hb f8_6
  have f9_7 := kc ⟨w7.heap.size, 1, none⟩ (.int .i64 dd) hb f8_7
  have hB9 : Below w.heap.size w w9 := beyond (hB8) hb
  clear hb f8_0 f8_1 f8_2 f8_3 f8_4 f8_5 f8_6 f8_7 hB8
  go_wp2_with fail
  go_ret
  exact ⟨rfl, hB9⟩
set_option maxRecDepth 100000 in
set_option maxHeartbeats 4000000 in
theorem orders_gd0 (an ad cn cd dd bd e dn y z : Int) (w : World) (ht : Pow w) (hne : ¬ ad = bd) (he : ¬ e = 0) (HR0 : Hid (AskR an ad true)) (HR1 : Hid (AskR an bd true)) (HR2 : Hid (AskR cn cd true))
    (HC0 : Hid (AskC an ad an bd 1)) (HC1 : Hid (AskC an bd cn cd y)) (HC2 : Hid (AskC an ad cn cd z)) (HC3 : Hid (AskC an bd an ad (-1)))
    (HS : Hid (CallsT 17 an ad an bd (dn, dd, e))) :
    Calls Tryd.prog 6 #[rv an ad, rv an bd, rv cn cd] w fun e w' => e = .returned (.bool true) ∧ Below w.heap.size w w' := by
  go_enter Tryd.func6, Tryd.ntmps6
  go_wp2_with fail
  refine (HR0.out _).mono ?_
  rintro e w1 ⟨rfl, hb⟩
  have f1_0 := kc ⟨w.heap.size, 0, none⟩ (.int .i64 an) hb (by first | assumption | simp [go_sem, *])
  have f1_1 := kc ⟨w.heap.size, 1, none⟩ (.int .i64 ad) hb (by first | assumption | simp [go_sem, *])
  have f1_2 := kc ⟨w.heap.size + 1, 0, none⟩ (.int .i64 an) hb (by first | assumption | simp [go_sem, *])
  have f1_3 := kc ⟨w.heap.size + 1, 1, none⟩ (.int .i64 bd) hb (by first | assumption | simp [go_sem, *])
  have f1_4 := kc ⟨w.heap.size + 1 + 1, 0, none⟩ (.int .i64 cn) hb (by first | assumption | simp [go_sem, *])
  have f1_5 := kc ⟨w.heap.size + 1 + 1, 1, none⟩ (.int .i64 cd) hb (by first | assumption | simp [go_sem, *])
  have hB1 : Below w.heap.size w w1 := beyond (three w _ _ _) hb
  clear hb
  go_wp2_with fail
  refine (HR1.out _).mono ?_
  rintro e w2 ⟨rfl, hb⟩
  have f2_0 := kc ⟨w.heap.size, 0, none⟩ (.int .i64 an) hb f1_0
  have f2_1 := kc ⟨w.heap.size, 1, none⟩ (.int .i64 ad) hb f1_1
  have f2_2 := kc ⟨w.heap.size + 1, 0, none⟩ (.int .i64 an) hb f1_2
  have f2_3 := kc ⟨w.heap.size + 1, 1, none⟩ (.int .i64 bd) hb f1_3
  have f2_4 := kc ⟨w.heap.size + 1 + 1, 0, none⟩ (.int .i64 cn) hb f1_4
  have f2_5 := kc ⟨w.heap.size + 1 + 1, 1, none⟩ (.int .i64 cd) hb f1_5
  have hB2 : Below w.heap.size w w2 := beyond (hB1) hb
  clear hb f1_0 f1_1 f1_2 f1_3 f1_4 f1_5 hB1
  go_wp2_with fail
  refine (HR2.out _).mono ?_
  rintro e w3 ⟨rfl, hb⟩
  have f3_0 := kc ⟨w.heap.size, 0, none⟩ (.int .i64 an) hb f2_0
  have f3_1 := kc ⟨w.heap.size, 1, none⟩ (.int .i64 ad) hb f2_1
  have f3_2 := kc ⟨w.heap.size + 1, 0, none⟩ (.int .i64 an) hb f2_2
  have f3_3 := kc ⟨w.heap.size + 1, 1, none⟩ (.int .i64 bd) hb f2_3
  have f3_4 := kc ⟨w.heap.size + 1 + 1, 0, none⟩ (.int .i64 cn) hb f2_4
  have f3_5 := kc ⟨w.heap.size + 1 + 1, 1, none⟩ (.int .i64 cd) hb f2_5
  have hB3 : Below w.heap.size w w3 := beyond (hB2) hb
  clear hb f2_0 f2_1 f2_2 f2_3 f2_4 f2_5 hB2
  go_wp2_with fail
  refine (HC0.out _).mono ?_
  rintro e w4 ⟨rfl, hb⟩
  have f4_0 := kc ⟨w.heap.size, 0, none⟩ (.int .i64 an) hb f3_0
  have f4_1 := kc ⟨w.heap.size, 1, none⟩ (.int .i64 ad) hb f3_1
  have f4_2 := kc ⟨w.heap.size + 1, 0, none⟩ (.int .i64 an) hb f3_2
  have f4_3 := kc ⟨w.heap.size + 1, 1, none⟩ (.int .i64 bd) hb f3_3
  have f4_4 := kc ⟨w.heap.size + 1 + 1, 0, none⟩ (.int .i64 cn) hb f3_4
  have f4_5 := kc ⟨w.heap.size + 1 + 1, 1, none⟩ (.int .i64 cd) hb f3_5
  have hB4 : Below w.heap.size w w4 := beyond (hB3) hb
  clear hb f3_0 f3_1 f3_2 f3_3 f3_4 f3_5 hB3
  go_wp2_with fail
  refine (HC1.out _).mono ?_
  rintro e w5 ⟨rfl, hb⟩
  have f5_0 := kc ⟨w.heap.size, 0, none⟩ (.int .i64 an) hb f4_0
  have f5_1 := kc ⟨w.heap.size, 1, none⟩ (.int .i64 ad) hb f4_1
  have f5_2 := kc ⟨w.heap.size + 1, 0, none⟩ (.int .i64 an) hb f4_2
  have f5_3 := kc ⟨w.heap.size + 1, 1, none⟩ (.int .i64 bd) hb f4_3
  have f5_4 := kc ⟨w.heap.size + 1 + 1, 0, none⟩ (.int .i64 cn) hb f4_4
  have f5_5 := kc ⟨w.heap.size + 1 + 1, 1, none⟩ (.int .i64 cd) hb f4_5
  have hB5 : Below w.heap.size w w5 := beyond (hB4) hb
  clear hb f4_0 f4_1 f4_2 f4_3 f4_4 f4_5 hB4
  go_wp2_with fail
  refine (HC2.out _).mono ?_
  rintro e w6 ⟨rfl, hb⟩
  have f6_0 := kc ⟨w.heap.size, 0, none⟩ (.int .i64 an) hb f5_0
  have f6_1 := kc ⟨w.heap.size, 1, none⟩ (.int .i64 ad) hb f5_1
  have f6_2 := kc ⟨w.heap.size + 1, 0, none⟩ (.int .i64 an) hb f5_2
  have f6_3 := kc ⟨w.heap.size + 1, 1, none⟩ (.int .i64 bd) hb f5_3
  have f6_4 := kc ⟨w.heap.size + 1 + 1, 0, none⟩ (.int .i64 cn) hb f5_4
  have f6_5 := kc ⟨w.heap.size + 1 + 1, 1, none⟩ (.int .i64 cd) hb f5_5
  have hB6 : Below w.heap.size w w6 := beyond (hB5) hb
  clear hb f5_0 f5_1 f5_2 f5_3 f5_4 f5_5 hB5
  go_wp2_with fail
  refine (HS.out _).mono ?_
  rintro e w7 ⟨rfl, hb⟩
  have f7_0 := kc ⟨w.heap.size, 0, none⟩ (.int .i64 an) hb f6_0
  have f7_1 := kc ⟨w.heap.size, 1, none⟩ (.int .i64 ad) hb f6_1
  have f7_2 := kc ⟨w.heap.size + 1, 0, none⟩ (.int .i64 an) hb f6_2
  have f7_3 := kc ⟨w.heap.size + 1, 1, none⟩ (.int .i64 bd) hb f6_3
  have f7_4 := kc ⟨w.heap.size + 1 + 1, 0, none⟩ (.int .i64 cn) hb f6_4
  have f7_5 := kc ⟨w.heap.size + 1 + 1, 1, none⟩ (.int .i64 cd) hb f6_5
  have hB7 : Below w.heap.size w w7 := beyond (hB6) hb
  clear hb f6_0 f6_1 f6_2 f6_3 f6_4 f6_5 hB6
  have r7_0 : ∀ O, (w7.alloc O).cell? ⟨w.heap.size, 0, none⟩ = some (.int .i64 an) := fun O => kc _ _ (single _ _) f7_0
  have r7_1 : ∀ O, (w7.alloc O).cell? ⟨w.heap.size, 1, none⟩ = some (.int .i64 ad) := fun O => kc _ _ (single _ _) f7_1
  have r7_2 : ∀ O, (w7.alloc O).cell? ⟨w.heap.size + 1, 0, none⟩ = some (.int .i64 an) := fun O => kc _ _ (single _ _) f7_2
  have r7_3 : ∀ O, (w7.alloc O).cell? ⟨w.heap.size + 1, 1, none⟩ = some (.int .i64 bd) := fun O => kc _ _ (single _ _) f7_3
  have r7_4 : ∀ O, (w7.alloc O).cell? ⟨w.heap.size + 1 + 1, 0, none⟩ = some (.int .i64 cn) := fun O => kc _ _ (single _ _) f7_4
  have r7_5 : ∀ O, (w7.alloc O).cell? ⟨w.heap.size + 1 + 1, 1, none⟩ = some (.int .i64 cd) := fun O => kc _ _ (single _ _) f7_5
  have rB7 : ∀ O, Below w.heap.size w (w7.alloc O) := fun O => beyond hB7 (single _ _)
  go_wp2_with fail
  refine (live_any _ (pow_later ht (rB7 _))).mono ?_
  rintro e w8 ⟨rfl, hb⟩
  have f8_0 := kc ⟨w.heap.size, 0, none⟩ (.int .i64 an) hb (r7_0 _)
  have f8_1 := kc ⟨w.heap.size, 1, none⟩ (.int .i64 ad) hb (r7_1 _)
  have f8_2 := kc ⟨w.heap.size + 1, 0, none⟩ (.int .i64 an) hb (r7_2 _)
  have f8_3 := kc ⟨w.heap.size + 1, 1, none⟩ (.int .i64 bd) hb (r7_3 _)
  have f8_4 := kc ⟨w.heap.size + 1 + 1, 0, none⟩ (.int .i64 cn) hb (r7_4 _)
  have f8_5 := kc ⟨w.heap.size + 1 + 1, 1, none⟩ (.int .i64 cd) hb (r7_5 _)
  have f8_6 := kc ⟨w7.heap.size, 0, none⟩ (.int .i64 dn) hb (new_cell w7 _ _ 0)
  have f8_7 := kc ⟨w7.heap.size, 1, none⟩ (.int .i64 dd) hb (new_cell w7 _ _ 1)
  have hB8 : Below w.heap.size w w8 := beyond (rB7 _) hb
  clear hb f7_0 f7_1 f7_2 f7_3 f7_4 f7_5 r7_0 r7_1 r7_2 r7_3 r7_4 r7_5 rB7 hB7
  go_wp2_with fail
  refine (HC3.out _).mono ?_
  rintro e w9 ⟨rfl, hb⟩
  have f9_0 := kc ⟨w.heap.size, 0, none⟩ (.int .i64 an) hb f8_0
  have f9_1 := kc ⟨w.heap.size, 1, none⟩ (.int .i64 ad) hb f8_1
  have f9_2 := kc ⟨w.heap.size + 1, 0, none⟩ (.int .i64 an) hb f8_2
  have f9_3 := kc ⟨w.heap.size + 1, 1, none⟩ (.int .i64 bd) hb f8_3
  have f9_4 := kc ⟨w.heap.size + 1 + 1, 0, none⟩ (.int .i64 cn) hb f8_4
  have f9_5 := kc ⟨w.heap.size + 1 + 1, 1, none⟩ (.int .i64 cd) hb f8_5
  have f9_6 := kc ⟨w7.heap.size, 0, none⟩ (.int .i64 dn) hb f8_6
  have f9_7 := kc ⟨w7.heap.size, 1, none⟩ (.int .i64 dd) hb f8_7
  have hB9 : Below w.heap.size w w9 := beyond (hB8) hb
  clear hb f8_0 f8_1 f8_2 f8_3 f8_4 f8_5 f8_6 f8_7 hB8
  go_wp2_with fail
  go_ret
  exact ⟨rfl, hB9⟩
set_option maxRecDepth 100000 in
set_option maxHeartbeats 4000000 in
theorem orders_ld10 (an ad cn cd dd bd dn z : Int) (w : World) (ht : Pow w) (hne : ¬ ad = bd) (hdn : dn < 0) (hd0 : ¬ dn = 0) (HR0 : Hid (AskR an ad true)) (HR1 : Hid (AskR an bd true)) (HR2 : Hid (AskR cn cd true))
    (HC0 : Hid (AskC an ad an bd (-1))) (HC1 : Hid (AskC an bd cn cd 1)) (HC2 : Hid (AskC an ad cn cd z)) (HC3 : Hid (AskC an bd an ad 1))
    (HS : Hid (CallsT 17 an ad an bd (dn, dd, 0))) :
    Calls Tryd.prog 6 #[rv an ad, rv an bd, rv cn cd] w fun e w' => e = .returned (.bool true) ∧ Below w.heap.size w w' := by
  go_enter Tryd.func6, Tryd.ntmps6
  go_wp2_with fail
  refine (HR0.out _).mono ?_
  rintro e w1 ⟨rfl, hb⟩
  have f1_0 := kc ⟨w.heap.size, 0, none⟩ (.int .i64 an) hb (by first | assumption | simp [go_sem, *])
  have f1_1 := kc ⟨w.heap.size, 1, none⟩ (.int .i64 ad) hb (by first | assumption | simp [go_sem, *])
  have f1_2 := kc ⟨w.heap.size + 1, 0, none⟩ (.int .i64 an) hb (by first | assumption | simp [go_sem, *])
  have f1_3 := kc ⟨w.heap.size + 1, 1, none⟩ (.int .i64 bd) hb (by first | assumption | simp [go_sem, *])
  have f1_4 := kc ⟨w.heap.size + 1 + 1, 0, none⟩ (.int .i64 cn) hb (by first | assumption | simp [go_sem, *])
  have f1_5 := kc ⟨w.heap.size + 1 + 1, 1, none⟩ (.int .i64 cd) hb (by first | assumption | simp [go_sem, *])
  have hB1 : Below w.heap.size w w1 := beyond (three w _ _ _) hb
  clear hb
  go_wp2_with fail
  refine (HR1.out _).mono ?_
  rintro e w2 ⟨rfl, hb⟩
  have f2_0 := kc ⟨w.heap.size, 0, none⟩ (.int .i64 an) hb f1_0
  have f2_1 := kc ⟨w.heap.size, 1, none⟩ (.int .i64 ad) hb f1_1
  have f2_2 := kc ⟨w.heap.size + 1, 0, none⟩ (.int .i64 an) hb f1_2
  have f2_3 := kc ⟨w.heap.size + 1, 1, none⟩ (.int .i64 bd) hb f1_3
  have f2_4 := kc ⟨w.heap.size + 1 + 1, 0, none⟩ (.int .i64 cn) hb f1_4
  have f2_5 := kc ⟨w.heap.size + 1 + 1, 1, none⟩ (.int .i64 cd) hb f1_5
  have hB2 : Below w.heap.size w w2 := beyond (hB1) hb
  clear hb f1_0 f1_1 f1_2 f1_3 f1_4 f1_5 hB1
  go_wp2_with fail
  refine (HR2.out _).mono ?_
  rintro e w3 ⟨rfl, hb⟩
  have f3_0 := kc ⟨w.heap.size, 0, none⟩ (.int .i64 an) hb f2_0
  have f3_1 := kc ⟨w.heap.size, 1, none⟩ (.int .i64 ad) hb f2_1
  have f3_2 := kc ⟨w.heap.size + 1, 0, none⟩ (.int .i64 an) hb f2_2
  have f3_3 := kc ⟨w.heap.size + 1, 1, none⟩ (.int .i64 bd) hb f2_3
  have f3_4 := kc ⟨w.heap.size + 1 + 1, 0, none⟩ (.int .i64 cn) hb f2_4
  have f3_5 := kc ⟨w.heap.size + 1 + 1, 1, none⟩ (.int .i64 cd) hb f2_5
  have hB3 : Below w.heap.size w w3 := beyond (hB2) hb
  clear hb f2_0 f2_1 f2_2 f2_3 f2_4 f2_5 hB2
  go_wp2_with fail
  refine (HC0.out _).mono ?_
  rintro e w4 ⟨rfl, hb⟩
  have f4_0 := kc ⟨w.heap.size, 0, none⟩ (.int .i64 an) hb f3_0
  have f4_1 := kc ⟨w.heap.size, 1, none⟩ (.int .i64 ad) hb f3_1
  have f4_2 := kc ⟨w.heap.size + 1, 0, none⟩ (.int .i64 an) hb f3_2
  have f4_3 := kc ⟨w.heap.size + 1, 1, none⟩ (.int .i64 bd) hb f3_3
  have f4_4 := kc ⟨w.heap.size + 1 + 1, 0, none⟩ (.int .i64 cn) hb f3_4
  have f4_5 := kc ⟨w.heap.size + 1 + 1, 1, none⟩ (.int .i64 cd) hb f3_5
  have hB4 : Below w.heap.size w w4 := beyond (hB3) hb
  clear hb f3_0 f3_1 f3_2 f3_3 f3_4 f3_5 hB3
  go_wp2_with fail
  refine (HC1.out _).mono ?_
  rintro e w5 ⟨rfl, hb⟩
  have f5_0 := kc ⟨w.heap.size, 0, none⟩ (.int .i64 an) hb f4_0
  have f5_1 := kc ⟨w.heap.size, 1, none⟩ (.int .i64 ad) hb f4_1
  have f5_2 := kc ⟨w.heap.size + 1, 0, none⟩ (.int .i64 an) hb f4_2
  have f5_3 := kc ⟨w.heap.size + 1, 1, none⟩ (.int .i64 bd) hb f4_3
  have f5_4 := kc ⟨w.heap.size + 1 + 1, 0, none⟩ (.int .i64 cn) hb f4_4
  have f5_5 := kc ⟨w.heap.size + 1 + 1, 1, none⟩ (.int .i64 cd) hb f4_5
  have hB5 : Below w.heap.size w w5 := beyond (hB4) hb
  clear hb f4_0 f4_1 f4_2 f4_3 f4_4 f4_5 hB4
  go_wp2_with fail
  refine (HC2.out _).mono ?_
  rintro e w6 ⟨rfl, hb⟩
  have f6_0 := kc ⟨w.heap.size, 0, none⟩ (.int .i64 an) hb f5_0
  have f6_1 := kc ⟨w.heap.size, 1, none⟩ (.int .i64 ad) hb f5_1
  have f6_2 := kc ⟨w.heap.size + 1, 0, none⟩ (.int .i64 an) hb f5_2
  have f6_3 := kc ⟨w.heap.size + 1, 1, none⟩ (.int .i64 bd) hb f5_3
  have f6_4 := kc ⟨w.heap.size + 1 + 1, 0, none⟩ (.int .i64 cn) hb f5_4
  have f6_5 := kc ⟨w.heap.size + 1 + 1, 1, none⟩ (.int .i64 cd) hb f5_5
  have hB6 : Below w.heap.size w w6 := beyond (hB5) hb
  clear hb f5_0 f5_1 f5_2 f5_3 f5_4 f5_5 hB5
  go_wp2_with fail
  refine (HS.out _).mono ?_
  rintro e w7 ⟨rfl, hb⟩
  have f7_0 := kc ⟨w.heap.size, 0, none⟩ (.int .i64 an) hb f6_0
  have f7_1 := kc ⟨w.heap.size, 1, none⟩ (.int .i64 ad) hb f6_1
  have f7_2 := kc ⟨w.heap.size + 1, 0, none⟩ (.int .i64 an) hb f6_2
  have f7_3 := kc ⟨w.heap.size + 1, 1, none⟩ (.int .i64 bd) hb f6_3
  have f7_4 := kc ⟨w.heap.size + 1 + 1, 0, none⟩ (.int .i64 cn) hb f6_4
  have f7_5 := kc ⟨w.heap.size + 1 + 1, 1, none⟩ (.int .i64 cd) hb f6_5
  have hB7 : Below w.heap.size w w7 := beyond (hB6) hb
  clear hb f6_0 f6_1 f6_2 f6_3 f6_4 f6_5 hB6
  have r7_0 : ∀ O, (w7.alloc O).cell? ⟨w.heap.size, 0, none⟩ = some (.int .i64 an) := fun O => kc _ _ (single _ _) f7_0
  have r7_1 : ∀ O, (w7.alloc O).cell? ⟨w.heap.size, 1, none⟩ = some (.int .i64 ad) := fun O => kc _ _ (single _ _) f7_1
  have r7_2 : ∀ O, (w7.alloc O).cell? ⟨w.heap.size + 1, 0, none⟩ = some (.int .i64 an) := fun O => kc _ _ (single _ _) f7_2
  have r7_3 : ∀ O, (w7.alloc O).cell? ⟨w.heap.size + 1, 1, none⟩ = some (.int .i64 bd) := fun O => kc _ _ (single _ _) f7_3
  have r7_4 : ∀ O, (w7.alloc O).cell? ⟨w.heap.size + 1 + 1, 0, none⟩ = some (.int .i64 cn) := fun O => kc _ _ (single _ _) f7_4
  have r7_5 : ∀ O, (w7.alloc O).cell? ⟨w.heap.size + 1 + 1, 1, none⟩ = some (.int .i64 cd) := fun O => kc _ _ (single _ _) f7_5
  have rB7 : ∀ O, Below w.heap.size w (w7.alloc O) := fun O => beyond hB7 (single _ _)
  go_wp2_with fail
  refine (live_any _ (pow_later ht (rB7 _))).mono ?_
  rintro e w8 ⟨rfl, hb⟩
  have f8_0 := kc ⟨w.heap.size, 0, none⟩ (.int .i64 an) hb (r7_0 _)
  have f8_1 := kc ⟨w.heap.size, 1, none⟩ (.int .i64 ad) hb (r7_1 _)
  have f8_2 := kc ⟨w.heap.size + 1, 0, none⟩ (.int .i64 an) hb (r7_2 _)
  have f8_3 := kc ⟨w.heap.size + 1, 1, none⟩ (.int .i64 bd) hb (r7_3 _)
  have f8_4 := kc ⟨w.heap.size + 1 + 1, 0, none⟩ (.int .i64 cn) hb (r7_4 _)
  have f8_5 := kc ⟨w.heap.size + 1 + 1, 1, none⟩ (.int .i64 cd) hb (r7_5 _)
  have f8_6 := kc ⟨w7.heap.size, 0, none⟩ (.int .i64 dn) hb (new_cell w7 _ _ 0)
  have f8_7 := kc ⟨w7.heap.size, 1, none⟩ (.int .i64 dd) hb (new_cell w7 _ _ 1)
  have hB8 : Below w.heap.size w w8 := beyond (rB7 _) hb
  clear hb f7_0 f7_1 f7_2 f7_3 f7_4 f7_5 r7_0 r7_1 r7_2 r7_3 r7_4 r7_5 rB7 hB7
  go_wp2_with fail
  refine (HC3.out _).mono ?_
  rintro e w9 ⟨rfl, hb⟩
  have f9_0 := kc ⟨w.heap.size, 0, none⟩ (.int .i64 an) hb f8_0
  have f9_1 := kc ⟨w.heap.size, 1, none⟩ (.int .i64 ad) hb f8_1
  have f9_2 := kc ⟨w.heap.size + 1, 0, none⟩ (.int .i64 an) hb f8_2
  have f9_3 := kc ⟨w.heap.size + 1, 1, none⟩ (.int .i64 bd) hb f8_3
  have f9_4 := kc ⟨w.heap.size + 1 + 1, 0, none⟩ (.int .i64 cn) hb f8_4
  have f9_5 := kc ⟨w.heap.size + 1 + 1, 1, none⟩ (.int .i64 cd) hb f8_5
  have f9_6 := kc ⟨w7.heap.size, 0, none⟩ (.int .i64 dn) hb f8_6
  have f9_7 := kc ⟨w7.heap.size, 1, none⟩ (.int .i64 dd) hb f8_7
  have hB9 : Below w.heap.size w w9 := beyond (hB8) hb
  clear hb f8_0 f8_1 f8_2 f8_3 f8_4 f8_5 f8_6 f8_7 hB8
  go_wp2_with fail
  go_ret
  first | exact ⟨rfl, hB9⟩ | exact ⟨by simp [*], hB9⟩ | exact ⟨by simp [go_sem, *], hB9⟩
set_option maxRecDepth 100000 in
set_option maxHeartbeats 4000000 in
theorem orders_ld11 (an ad cn cd dd bd dn : Int) (w : World) (ht : Pow w) (hne : ¬ ad = bd) (hdn : dn < 0) (hd0 : ¬ dn = 0) (HR0 : Hid (AskR an ad true)) (HR1 : Hid (AskR an bd true)) (HR2 : Hid (AskR cn cd true))
    (HC0 : Hid (AskC an ad an bd (-1))) (HC1 : Hid (AskC an bd cn cd 0)) (HC2 : Hid (AskC an ad cn cd (-1))) (HC3 : Hid (AskC an bd an ad 1))
    (HS : Hid (CallsT 17 an ad an bd (dn, dd, 0))) :
    Calls Tryd.prog 6 #[rv an ad, rv an bd, rv cn cd] w fun e w' => e = .returned (.bool true) ∧ Below w.heap.size w w' := by
  go_enter Tryd.func6, Tryd.ntmps6
  go_wp2_with fail
  refine (HR0.out _).mono ?_
  rintro e w1 ⟨rfl, hb⟩
  have f1_0 := kc ⟨w.heap.size, 0, none⟩ (.int .i64 an) hb (by first | assumption | simp [go_sem, *])
  have f1_1 := kc ⟨w.heap.size, 1, none⟩ (.int .i64 ad) hb (by first | assumption | simp [go_sem, *])
  have f1_2 := kc ⟨w.heap.size + 1, 0, none⟩ (.int .i64 an) hb (by first | assumption | simp [go_sem, *])
  have f1_3 := kc ⟨w.heap.size + 1, 1, none⟩ (.int .i64 bd) hb (by first | assumption | simp [go_sem, *])
  have f1_4 := kc ⟨w.heap.size + 1 + 1, 0, none⟩ (.int .i64 cn) hb (by first | assumption | simp [go_sem, *])
  have f1_5 := kc ⟨w.heap.size + 1 + 1, 1, none⟩ (.int .i64 cd) hb (by first | assumption | simp [go_sem, *])
  have hB1 : Below w.heap.size w w1 := beyond (three w _ _ _) hb
  clear hb
  go_wp2_with fail
  refine (HR1.out _).mono ?_
  rintro e w2 ⟨rfl, hb⟩
  have f2_0 := kc ⟨w.heap.size, 0, none⟩ (.int .i64 an) hb f1_0
  have f2_1 := kc ⟨w.heap.size, 1, none⟩ (.int .i64 ad) hb f1_1
  have f2_2 := kc ⟨w.heap.size + 1, 0, none⟩ (.int .i64 an) hb f1_2
  have f2_3 := kc ⟨w.heap.size + 1, 1, none⟩ (.int .i64 bd) hb f1_3
  have f2_4 := kc ⟨w.heap.size + 1 + 1, 0, none⟩ (.int .i64 cn) hb f1_4
  have f2_5 := kc ⟨w.heap.size + 1 + 1, 1, none⟩ (.int .i64 cd) hb f1_5
  have hB2 : Below w.heap.size w w2 := beyond (hB1) hb
  clear hb f1_0 f1_1 f1_2 f1_3 f1_4 f1_5 hB1
  go_wp2_with fail
  refine (HR2.out _).mono ?_
  rintro e w3 ⟨rfl, hb⟩
  have f3_0 := kc ⟨w.heap.size, 0, none⟩ (.int .i64 an) hb f2_0
  have f3_1 := kc ⟨w.heap.size, 1, none⟩ (.int .i64 ad) hb f2_1
  have f3_2 := kc ⟨w.heap.size + 1, 0, none⟩ (.int .i64 an) hb f2_2
  have f3_3 := kc ⟨w.heap.size + 1, 1, none⟩ (.int .i64 bd) hb f2_3
  have f3_4 := kc ⟨w.heap.size + 1 + 1, 0, none⟩ (.int .i64 cn) hb f2_4
  have f3_5 := kc ⟨w.heap.size + 1 + 1, 1, none⟩ (.int .i64 cd) hb f2_5
  have hB3 : Below w.heap.size w w3 := beyond (hB2) hb
  clear hb f2_0 f2_1 f2_2 f2_3 f2_4 f2_5 hB2
  go_wp2_with fail
  refine (HC0.out _).mono ?_
  rintro e w4 ⟨rfl, hb⟩
  have f4_0 := kc ⟨w.heap.size, 0, none⟩ (.int .i64 an) hb f3_0
  have f4_1 := kc ⟨w.heap.size, 1, none⟩ (.int .i64 ad) hb f3_1
  have f4_2 := kc ⟨w.heap.size + 1, 0, none⟩ (.int .i64 an) hb f3_2
  have f4_3 := kc ⟨w.heap.size + 1, 1, none⟩ (.int .i64 bd) hb f3_3
  have f4_4 := kc ⟨w.heap.size + 1 + 1, 0, none⟩ (.int .i64 cn) hb f3_4
  have f4_5 := kc ⟨w.heap.size + 1 + 1, 1, none⟩ (.int .i64 cd) hb f3_5
  have hB4 : Below w.heap.size w w4 := beyond (hB3) hb
  clear hb f3_0 f3_1 f3_2 f3_3 f3_4 f3_5 hB3
  go_wp2_with fail
  refine (HC1.out _).mono ?_
  rintro e w5 ⟨rfl, hb⟩
  have f5_0 := kc ⟨w.heap.size, 0, none⟩ (.int .i64 an) hb f4_0
  have f5_1 := kc ⟨w.heap.size, 1, none⟩ (.int .i64 ad) hb f4_1
  have f5_2 := kc ⟨w.heap.size + 1, 0, none⟩ (.int .i64 an) hb f4_2
  have f5_3 := kc ⟨w.heap.size + 1, 1, none⟩ (.int .i64 bd) hb f4_3
  have f5_4 := kc ⟨w.heap.size + 1 + 1, 0, none⟩ (.int .i64 cn) hb f4_4
  have f5_5 := kc ⟨w.heap.size + 1 + 1, 1, none⟩ (.int .i64 cd) hb f4_5
  have hB5 : Below w.heap.size w w5 := beyond (hB4) hb
  clear hb f4_0 f4_1 f4_2 f4_3 f4_4 f4_5 hB4
  go_wp2_with fail
  refine (HC2.out _).mono ?_
  rintro e w6 ⟨rfl, hb⟩
  have f6_0 := kc ⟨w.heap.size, 0, none⟩ (.int .i64 an) hb f5_0
  have f6_1 := kc ⟨w.heap.size, 1, none⟩ (.int .i64 ad) hb f5_1
  have f6_2 := kc ⟨w.heap.size + 1, 0, none⟩ (.int .i64 an) hb f5_2
  have f6_3 := kc ⟨w.heap.size + 1, 1, none⟩ (.int .i64 bd) hb f5_3
  have f6_4 := kc ⟨w.heap.size + 1 + 1, 0, none⟩ (.int .i64 cn) hb f5_4
  have f6_5 := kc ⟨w.heap.size + 1 + 1, 1, none⟩ (.int .i64 cd) hb f5_5
  have hB6 : Below w.heap.size w w6 := beyond (hB5) hb
  clear hb f5_0 f5_1 f5_2 f5_3 f5_4 f5_5 hB5
  go_wp2_with fail
  refine (HS.out _).mono ?_
  rintro e w7 ⟨rfl, hb⟩
  have f7_0 := kc ⟨w.heap.size, 0, none⟩ (.int .i64 an) hb f6_0
  have f7_1 := kc ⟨w.heap.size, 1, none⟩ (.int .i64 ad) hb f6_1
  have f7_2 := kc ⟨w.heap.size + 1, 0, none⟩ (.int .i64 an) hb f6_2
  have f7_3 := kc ⟨w.heap.size + 1, 1, none⟩ (.int .i64 bd) hb f6_3
  have f7_4 := kc ⟨w.heap.size + 1 + 1, 0, none⟩ (.int .i64 cn) hb f6_4
  have f7_5 := kc ⟨w.heap.size + 1 + 1, 1, none⟩ (.int .i64 cd) hb f6_5
  have hB7 : Below w.heap.size w w7 := beyond (hB6) hb
  clear hb f6_0 f6_1 f6_2 f6_3 f6_4 f6_5 hB6
  have r7_0 : ∀ O, (w7.alloc O).cell? ⟨w.heap.size, 0, none⟩ = some (.int .i64 an) := fun O => kc _ _ (single _ _) f7_0
  have r7_1 : ∀ O, (w7.alloc O).cell? ⟨w.heap.size, 1, none⟩ = some (.int .i64 ad) := fun O => kc _ _ (single _ _) f7_1
  have r7_2 : ∀ O, (w7.alloc O).cell? ⟨w.heap.size + 1, 0, none⟩ = some (.int .i64 an) := fun O => kc _ _ (single _ _) f7_2
  have r7_3 : ∀ O, (w7.alloc O).cell? ⟨w.heap.size + 1, 1, none⟩ = some (.int .i64 bd) := fun O => kc _ _ (single _ _) f7_3
  have r7_4 : ∀ O, (w7.alloc O).cell? ⟨w.heap.size + 1 + 1, 0, none⟩ = some (.int .i64 cn) := fun O => kc _ _ (single _ _) f7_4
  have r7_5 : ∀ O, (w7.alloc O).cell? ⟨w.heap.size + 1 + 1, 1, none⟩ = some (.int .i64 cd) := fun O => kc _ _ (single _ _) f7_5
  have rB7 : ∀ O, Below w.heap.size w (w7.alloc O) := fun O => beyond hB7 (single _ _)
  go_wp2_with fail
  refine (live_any _ (pow_later ht (rB7 _))).mono ?_
  rintro e w8 ⟨rfl, hb⟩
  have f8_0 := kc ⟨w.heap.size, 0, none⟩ (.int .i64 an) hb (r7_0 _)
  have f8_1 := kc ⟨w.heap.size, 1, none⟩ (.int .i64 ad) hb (r7_1 _)
  have f8_2 := kc ⟨w.heap.size + 1, 0, none⟩ (.int .i64 an) hb (r7_2 _)
  have f8_3 := kc ⟨w.heap.size + 1, 1, none⟩ (.int .i64 bd) hb (r7_3 _)
  have f8_4 := kc ⟨w.heap.size + 1 + 1, 0, none⟩ (.int .i64 cn) hb (r7_4 _)
  have f8_5 := kc ⟨w.heap.size + 1 + 1, 1, none⟩ (.int .i64 cd) hb (r7_5 _)
  have f8_6 := kc ⟨w7.heap.size, 0, none⟩ (.int .i64 dn) hb (new_cell w7 _ _ 0)
  have f8_7 := kc ⟨w7.heap.size, 1, none⟩ (.int .i64 dd) hb (new_cell w7 _ _ 1)
  have hB8 : Below w.heap.size w w8 := beyond (rB7 _) hb
  clear hb f7_0 f7_1 f7_2 f7_3 f7_4 f7_5 r7_0 r7_1 r7_2 r7_3 r7_4 r7_5 rB7 hB7
  go_wp2_with fail
  refine (HC3.out _).mono ?_
  rintro e w9 ⟨rfl, hb⟩
  have f9_0 := kc ⟨w.heap.size, 0, none⟩ (.int .i64 an) hb f8_0
  have f9_1 := kc ⟨w.heap.size, 1, none⟩ (.int .i64 ad) hb f8_1
  have f9_2 := kc ⟨w.heap.size + 1, 0, none⟩ (.int .i64 an) hb f8_2
  have f9_3 := kc ⟨w.heap.size + 1, 1, none⟩ (.int .i64 bd) hb f8_3
  have f9_4 := kc ⟨w.heap.size + 1 + 1, 0, none⟩ (.int .i64 cn) hb f8_4
  have f9_5 := kc ⟨w.heap.size + 1 + 1, 1, none⟩ (.int .i64 cd) hb f8_5
  have f9_6 := kc ⟨w7.heap.size, 0, none⟩ (.int .i64 dn) hb f8_6
  have f9_7 := kc ⟨w7.heap.size, 1, none⟩ (.int .i64 dd) hb f8_7
  have hB9 : Below w.heap.size w w9 := beyond (hB8) hb
  clear hb f8_0 f8_1 f8_2 f8_3 f8_4 f8_5 f8_6 f8_7 hB8
  go_wp2_with fail
  go_ret
  first | exact ⟨rfl, hB9⟩ | exact ⟨by simp [*], hB9⟩ | exact ⟨by simp [go_sem, *], hB9⟩
set_option maxRecDepth 100000 in
set_option maxHeartbeats 4000000 in
theorem orders_ld12 (an ad cn cd dd bd dn : Int) (w : World) (ht : Pow w) (hne : ¬ ad = bd) (hdn : dn < 0) (hd0 : ¬ dn = 0) (HR0 : Hid (AskR an ad true)) (HR1 : Hid (AskR an bd true)) (HR2 : Hid (AskR cn cd true))
    (HC0 : Hid (AskC an ad an bd (-1))) (HC1 : Hid (AskC an bd cn cd (-1))) (HC2 : Hid (AskC an ad cn cd (-1))) (HC3 : Hid (AskC an bd an ad 1))
    (HS : Hid (CallsT 17 an ad an bd (dn, dd, 0))) :
    Calls Tryd.prog 6 #[rv an ad, rv an bd, rv cn cd] w fun e w' => e = .returned (.bool true) ∧ Below w.heap.size w w' := by
  go_enter Tryd.func6, Tryd.ntmps6
  go_wp2_with fail
  refine (HR0.out _).mono ?_
  rintro e w1 ⟨rfl, hb⟩
  have f1_0 := kc ⟨w.heap.size, 0, none⟩ (.int .i64 an) hb (by first | assumption | simp [go_sem, *])
  have f1_1 := kc ⟨w.heap.size, 1, none⟩ (.int .i64 ad) hb (by first | assumption | simp [go_sem, *])
  have f1_2 := kc ⟨w.heap.size + 1, 0, none⟩ (.int .i64 an) hb (by first | assumption | simp [go_sem, *])
  have f1_3 := kc ⟨w.heap.size + 1, 1, none⟩ (.int .i64 bd) hb (by first | assumption | simp [go_sem, *])
  have f1_4 := kc ⟨w.heap.size + 1 + 1, 0, none⟩ (.int .i64 cn) hb (by first | assumption | simp [go_sem, *])
  have f1_5 := kc ⟨w.heap.size + 1 + 1, 1, none⟩ (.int .i64 cd) hb (by first | assumption | simp [go_sem, *])
  have hB1 : Below w.heap.size w w1 := beyond (three w _ _ _) hb
  clear hb
  go_wp2_with fail
  refine (HR1.out _).mono ?_
  rintro e w2 ⟨rfl, hb⟩
  have f2_0 := kc ⟨w.heap.size, 0, none⟩ (.int .i64 an) hb f1_0
  have f2_1 := kc ⟨w.heap.size, 1, none⟩ (.int .i64 ad) hb f1_1
  have f2_2 := kc ⟨w.heap.size + 1, 0, none⟩ (.int .i64 an) hb f1_2
  have f2_3 := kc ⟨w.heap.size + 1, 1, none⟩ (.int .i64 bd) hb f1_3
  have f2_4 := kc ⟨w.heap.size + 1 + 1, 0, none⟩ (.int .i64 cn) hb f1_4
  have f2_5 := kc ⟨w.heap.size + 1 + 1, 1, none⟩ (.int .i64 cd) hb f1_5
  have hB2 : Below w.heap.size w w2 := beyond (hB1) hb
  clear hb f1_0 f1_1 f1_2 f1_3 f1_4 f1_5 hB1
  go_wp2_with fail
  refine (HR2.out _).mono ?_
  rintro e w3 ⟨rfl, hb⟩
  have f3_0 := kc ⟨w.heap.size, 0, none⟩ (.int .i64 an) hb f2_0
  have f3_1 := kc ⟨w.heap.size, 1, none⟩ (.int .i64 ad) hb f2_1
  have f3_2 := kc ⟨w.heap.size + 1, 0, none⟩ (.int .i64 an) hb f2_2
  have f3_3 := kc ⟨w.heap.size + 1, 1, none⟩ (.int .i64 bd) hb f2_3
  have f3_4 := kc ⟨w.heap.size + 1 + 1, 0, none⟩ (.int .i64 cn) hb f2_4
  have f3_5 := kc ⟨w.heap.size + 1 + 1, 1, none⟩ (.int .i64 cd) hb f2_5
  have hB3 : Below w.heap.size w w3 := beyond (hB2) hb
  clear hb f2_0 f2_1 f2_2 f2_3 f2_4 f2_5 hB2
  go_wp2_with fail
  refine (HC0.out _).mono ?_
  rintro e w4 ⟨rfl, hb⟩
  have f4_0 := kc ⟨w.heap.size, 0, none⟩ (.int .i64 an) hb f3_0
  have f4_1 := kc ⟨w.heap.size, 1, none⟩ (.int .i64 ad) hb f3_1
  have f4_2 := kc ⟨w.heap.size + 1, 0, none⟩ (.int .i64 an) hb f3_2
  have f4_3 := kc ⟨w.heap.size + 1, 1, none⟩ (.int .i64 bd) hb f3_3
  have f4_4 := kc ⟨w.heap.size + 1 + 1, 0, none⟩ (.int .i64 cn) hb f3_4
  have f4_5 := kc ⟨w.heap.size + 1 + 1, 1, none⟩ (.int .i64 cd) hb f3_5
  have hB4 : Below w.heap.size w w4 := beyond (hB3) hb
  clear hb f3_0 f3_1 f3_2 f3_3 f3_4 f3_5 hB3
  go_wp2_with fail
  refine (HC1.out _).mono ?_
  rintro e w5 ⟨rfl, hb⟩
  have f5_0 := kc ⟨w.heap.size, 0, none⟩ (.int .i64 an) hb f4_0
  have f5_1 := kc ⟨w.heap.size, 1, none⟩ (.int .i64 ad) hb f4_1
  have f5_2 := kc ⟨w.heap.size + 1, 0, none⟩ (.int .i64 an) hb f4_2
  have f5_3 := kc ⟨w.heap.size + 1, 1, none⟩ (.int .i64 bd) hb f4_3
  have f5_4 := kc ⟨w.heap.size + 1 + 1, 0, none⟩ (.int .i64 cn) hb f4_4
  have f5_5 := kc ⟨w.heap.size + 1 + 1, 1, none⟩ (.int .i64 cd) hb f4_5
  have hB5 : Below w.heap.size w w5 := beyond (hB4) hb
  clear hb f4_0 f4_1 f4_2 f4_3 f4_4 f4_5 hB4
  go_wp2_with fail
  refine (HC2.out _).mono ?_
  rintro e w6 ⟨rfl, hb⟩
  have f6_0 := kc ⟨w.heap.size, 0, none⟩ (.int .i64 an) hb f5_0
  have f6_1 := kc ⟨w.heap.size, 1, none⟩ (.int .i64 ad) hb f5_1
  have f6_2 := kc ⟨w.heap.size + 1, 0, none⟩ (.int .i64 an) hb f5_2
  have f6_3 := kc ⟨w.heap.size + 1, 1, none⟩ (.int .i64 bd) hb f5_3
  have f6_4 := kc ⟨w.heap.size + 1 + 1, 0, none⟩ (.int .i64 cn) hb f5_4
  have f6_5 := kc ⟨w.heap.size + 1 + 1, 1, none⟩ (.int .i64 cd) hb f5_5
  have hB6 : Below w.heap.size w w6 := beyond (hB5) hb
  clear hb f5_0 f5_1 f5_2 f5_3 f5_4 f5_5 hB5
  go_wp2_with fail
  refine (HS.out _).mono ?_
  rintro e w7 ⟨rfl, hb⟩
  have f7_0 := kc ⟨w.heap.size, 0, none⟩ (.int .i64 an) hb f6_0
  have f7_1 := kc ⟨w.heap.size, 1, none⟩ (.int .i64 ad) hb f6_1
  have f7_2 := kc ⟨w.heap.size + 1, 0, none⟩ (.int .i64 an) hb f6_2
  have f7_3 := kc ⟨w.heap.size + 1, 1, none⟩ (.int .i64 bd) hb f6_3
  have f7_4 := kc ⟨w.heap.size + 1 + 1, 0, none⟩ (.int .i64 cn) hb f6_4
  have f7_5 := kc ⟨w.heap.size + 1 + 1, 1, none⟩ (.int .i64 cd) hb f6_5
  have hB7 : Below w.heap.size w w7 := beyond (hB6) hb
  clear hb f6_0 f6_1 f6_2 f6_3 f6_4 f6_5 hB6
  have r7_0 : ∀ O, (w7.alloc O).cell? ⟨w.heap.size, 0, none⟩ = some (.int .i64 an) := fun O => kc _ _ (single _ _) f7_0
  have r7_1 : ∀ O, (w7.alloc O).cell? ⟨w.heap.size, 1, none⟩ = some (.int .i64 ad) := fun O => kc _ _ (single _ _) f7_1
  have r7_2 : ∀ O, (w7.alloc O).cell? ⟨w.heap.size + 1, 0, none⟩ = some (.int .i64 an) := fun O => kc _ _ (single _ _) f7_2
  have r7_3 : ∀ O, (w7.alloc O).cell? ⟨w.heap.size + 1, 1, none⟩ = some (.int .i64 bd) := fun O => kc _ _ (single _ _) f7_3
  have r7_4 : ∀ O, (w7.alloc O).cell? ⟨w.heap.size + 1 + 1, 0, none⟩ = some (.int .i64 cn) := fun O => kc _ _ (single _ _) f7_4
  have r7_5 : ∀ O, (w7.alloc O).cell? ⟨w.heap.size + 1 + 1, 1, none⟩ = some (.int .i64 cd) := fun O => kc _ _ (single _ _) f7_5
  have rB7 : ∀ O, Below w.heap.size w (w7.alloc O) := fun O => beyond hB7 (single _ _)
  go_wp2_with fail
  refine (live_any _ (pow_later ht (rB7 _))).mono ?_
  rintro e w8 ⟨rfl, hb⟩
  have f8_0 := kc ⟨w.heap.size, 0, none⟩ (.int .i64 an) hb (r7_0 _)
  have f8_1 := kc ⟨w.heap.size, 1, none⟩ (.int .i64 ad) hb (r7_1 _)
  have f8_2 := kc ⟨w.heap.size + 1, 0, none⟩ (.int .i64 an) hb (r7_2 _)
  have f8_3 := kc ⟨w.heap.size + 1, 1, none⟩ (.int .i64 bd) hb (r7_3 _)
  have f8_4 := kc ⟨w.heap.size + 1 + 1, 0, none⟩ (.int .i64 cn) hb (r7_4 _)
  have f8_5 := kc ⟨w.heap.size + 1 + 1, 1, none⟩ (.int .i64 cd) hb (r7_5 _)
  have f8_6 := kc ⟨w7.heap.size, 0, none⟩ (.int .i64 dn) hb (new_cell w7 _ _ 0)
  have f8_7 := kc ⟨w7.heap.size, 1, none⟩ (.int .i64 dd) hb (new_cell w7 _ _ 1)
  have hB8 : Below w.heap.size w w8 := beyond (rB7 _) hb
  clear hb f7_0 f7_1 f7_2 f7_3 f7_4 f7_5 r7_0 r7_1 r7_2 r7_3 r7_4 r7_5 rB7 hB7
  go_wp2_with fail
  refine (HC3.out _).mono ?_
  rintro e w9 ⟨rfl, hb⟩
  have f9_0 := kc ⟨w.heap.size, 0, none⟩ (.int .i64 an) hb f8_0
  have f9_1 := kc ⟨w.heap.size, 1, none⟩ (.int .i64 ad) hb f8_1
  have f9_2 := kc ⟨w.heap.size + 1, 0, none⟩ (.int .i64 an) hb f8_2
  have f9_3 := kc ⟨w.heap.size + 1, 1, none⟩ (.int .i64 bd) hb f8_3
  have f9_4 := kc ⟨w.heap.size + 1 + 1, 0, none⟩ (.int .i64 cn) hb f8_4
  have f9_5 := kc ⟨w.heap.size + 1 + 1, 1, none⟩ (.int .i64 cd) hb f8_5
  have f9_6 := kc ⟨w7.heap.size, 0, none⟩ (.int .i64 dn) hb f8_6
  have f9_7 := kc ⟨w7.heap.size, 1, none⟩ (.int .i64 dd) hb f8_7
  have hB9 : Below w.heap.size w w9 := beyond (hB8) hb
  clear hb f8_0 f8_1 f8_2 f8_3 f8_4 f8_5 f8_6 f8_7 hB8
  go_wp2_with fail
  go_ret
  first | exact ⟨rfl, hB9⟩ | exact ⟨by simp [*], hB9⟩ | exact ⟨by simp [go_sem, *], hB9⟩
set_option maxRecDepth 100000 in
set_option maxHeartbeats 4000000 in
theorem orders_gd1 (an ad cn cd dd bd dn y z : Int) (w : World) (ht : Pow w) (hne : ¬ ad = bd) (hdn : ¬ dn < 0) (hd0 : ¬ dn = 0) (HR0 : Hid (AskR an ad true)) (HR1 : Hid (AskR an bd true)) (HR2 : Hid (AskR cn cd true))
    (HC0 : Hid (AskC an ad an bd 1)) (HC1 : Hid (AskC an bd cn cd y)) (HC2 : Hid (AskC an ad cn cd z)) (HC3 : Hid (AskC an bd an ad (-1)))
    (HS : Hid (CallsT 17 an ad an bd (dn, dd, 0))) :
    Calls Tryd.prog 6 #[rv an ad, rv an bd, rv cn cd] w fun e w' => e = .returned (.bool true) ∧ Below w.heap.size w w' := by
  go_enter Tryd.func6, Tryd.ntmps6
  go_wp2_with fail
  refine (HR0.out _).mono ?_
  rintro e w1 ⟨rfl, hb⟩
  have f1_0 := kc ⟨w.heap.size, 0, none⟩ (.int .i64 an) hb (by first | assumption | simp [go_sem, *])
  have f1_1 := kc ⟨w.heap.size, 1, none⟩ (.int .i64 ad) hb (by first | assumption | simp [go_sem, *])
  have f1_2 := kc ⟨w.heap.size + 1, 0, none⟩ (.int .i64 an) hb (by first | assumption | simp [go_sem, *])
  have f1_3 := kc ⟨w.heap.size + 1, 1, none⟩ (.int .i64 bd) hb (by first | assumption | simp [go_sem, *])
  have f1_4 := kc ⟨w.heap.size + 1 + 1, 0, none⟩ (.int .i64 cn) hb (by first | assumption | simp [go_sem, *])
  have f1_5 := kc ⟨w.heap.size + 1 + 1, 1, none⟩ (.int .i64 cd) hb (by first | assumption | simp [go_sem, *])
  have hB1 : Below w.heap.size w w1 := beyond (three w _ _ _) hb
  clear hb
  go_wp2_with fail
  refine (HR1.out _).mono ?_
  rintro e w2 ⟨rfl, hb⟩
  have f2_0 := kc ⟨w.heap.size, 0, none⟩ (.int .i64 an) hb f1_0
  have f2_1 := kc ⟨w.heap.size, 1, none⟩ (.int .i64 ad) hb f1_1
  have f2_2 := kc ⟨w.heap.size + 1, 0, none⟩ (.int .i64 an) hb f1_2
  have f2_3 := kc ⟨w.heap.size + 1, 1, none⟩ (.int .i64 bd) hb f1_3
  have f2_4 := kc ⟨w.heap.size + 1 + 1, 0, none⟩ (.int .i64 cn) hb f1_4
  have f2_5 := kc ⟨w.heap.size + 1 + 1, 1, none⟩ (.int .i64 cd) hb f1_5
  have hB2 : Below w.heap.size w w2 := beyond (hB1) hb
  clear hb f1_0 f1_1 f1_2 f1_3 f1_4 f1_5 hB1
  go_wp2_with fail
  refine (HR2.out _).mono ?_
  rintro e w3 ⟨rfl, hb⟩
  have f3_0 := kc ⟨w.heap.size, 0, none⟩ (.int .i64 an) hb f2_0
  have f3_1 := kc ⟨w.heap.size, 1, none⟩ (.int .i64 ad) hb f2_1
  have f3_2 := kc ⟨w.heap.size + 1, 0, none⟩ (.int .i64 an) hb f2_2
  have f3_3 := kc ⟨w.heap.size + 1, 1, none⟩ (.int .i64 bd) hb f2_3
  have f3_4 := kc ⟨w.heap.size + 1 + 1, 0, none⟩ (.int .i64 cn) hb f2_4
  have f3_5 := kc ⟨w.heap.size + 1 + 1, 1, none⟩ (.int .i64 cd) hb f2_5
  have hB3 : Below w.heap.size w w3 := beyond (hB2) hb
  clear hb f2_0 f2_1 f2_2 f2_3 f2_4 f2_5 hB2
  go_wp2_with fail
  refine (HC0.out _).mono ?_
  rintro e w4 ⟨rfl, hb⟩
  have f4_0 := kc ⟨w.heap.size, 0, none⟩ (.int .i64 an) hb f3_0
  have f4_1 := kc ⟨w.heap.size, 1, none⟩ (.int .i64 ad) hb f3_1
  have f4_2 := kc ⟨w.heap.size + 1, 0, none⟩ (.int .i64 an) hb f3_2
  have f4_3 := kc ⟨w.heap.size + 1, 1, none⟩ (.int .i64 bd) hb f3_3
  have f4_4 := kc ⟨w.heap.size + 1 + 1, 0, none⟩ (.int .i64 cn) hb f3_4
  have f4_5 := kc ⟨w.heap.size + 1 + 1, 1, none⟩ (.int .i64 cd) hb f3_5
  have hB4 : Below w.heap.size w w4 := beyond (hB3) hb
  clear hb f3_0 f3_1 f3_2 f3_3 f3_4 f3_5 hB3
  go_wp2_with fail
  refine (HC1.out _).mono ?_
  rintro e w5 ⟨rfl, hb⟩
  have f5_0 := kc ⟨w.heap.size, 0, none⟩ (.int .i64 an) hb f4_0
  have f5_1 := kc ⟨w.heap.size, 1, none⟩ (.int .i64 ad) hb f4_1
  have f5_2 := kc ⟨w.heap.size + 1, 0, none⟩ (.int .i64 an) hb f4_2
  have f5_3 := kc ⟨w.heap.size + 1, 1, none⟩ (.int .i64 bd) hb f4_3
  have f5_4 := kc ⟨w.heap.size + 1 + 1, 0, none⟩ (.int .i64 cn) hb f4_4
  have f5_5 := kc ⟨w.heap.size + 1 + 1, 1, none⟩ (.int .i64 cd) hb f4_5
  have hB5 : Below w.heap.size w w5 := beyond (hB4) hb
  clear hb f4_0 f4_1 f4_2 f4_3 f4_4 f4_5 hB4
  go_wp2_with fail
  refine (HC2.out _).mono ?_
  rintro e w6 ⟨rfl, hb⟩
  have f6_0 := kc ⟨w.heap.size, 0, none⟩ (.int .i64 an) hb f5_0
  have f6_1 := kc ⟨w.heap.size, 1, none⟩ (.int .i64 ad) hb f5_1
  have f6_2 := kc ⟨w.heap.size + 1, 0, none⟩ (.int .i64 an) hb f5_2
  have f6_3 := kc ⟨w.heap.size + 1, 1, none⟩ (.int .i64 bd) hb f5_3
  have f6_4 := kc ⟨w.heap.size + 1 + 1, 0, none⟩ (.int .i64 cn) hb f5_4
  have f6_5 := kc ⟨w.heap.size + 1 + 1, 1, none⟩ (.int .i64 cd) hb f5_5
  have hB6 : Below w.heap.size w w6 := beyond (hB5) hb
  clear hb f5_0 f5_1 f5_2 f5_3 f5_4 f5_5 hB5
  go_wp2_with fail
  refine (HS.out _).mono ?_
  rintro e w7 ⟨rfl, hb⟩
  have f7_0 := kc ⟨w.heap.size, 0, none⟩ (.int .i64 an) hb f6_0
  have f7_1 := kc ⟨w.heap.size, 1, none⟩ (.int .i64 ad) hb f6_1
  have f7_2 := kc ⟨w.heap.size + 1, 0, none⟩ (.int .i64 an) hb f6_2
  have f7_3 := kc ⟨w.heap.size + 1, 1, none⟩ (.int .i64 bd) hb f6_3
  have f7_4 := kc ⟨w.heap.size + 1 + 1, 0, none⟩ (.int .i64 cn) hb f6_4
  have f7_5 := kc ⟨w.heap.size + 1 + 1, 1, none⟩ (.int .i64 cd) hb f6_5
  have hB7 : Below w.heap.size w w7 := beyond (hB6) hb
  clear hb f6_0 f6_1 f6_2 f6_3 f6_4 f6_5 hB6
  have r7_0 : ∀ O, (w7.alloc O).cell? ⟨w.heap.size, 0, none⟩ = some (.int .i64 an) := fun O => kc _ _ (single _ _) f7_0
  have r7_1 : ∀ O, (w7.alloc O).cell? ⟨w.heap.size, 1, none⟩ = some (.int .i64 ad) := fun O => kc _ _ (single _ _) f7_1
  have r7_2 : ∀ O, (w7.alloc O).cell? ⟨w.heap.size + 1, 0, none⟩ = some (.int .i64 an) := fun O => kc _ _ (single _ _) f7_2
  have r7_3 : ∀ O, (w7.alloc O).cell? ⟨w.heap.size + 1, 1, none⟩ = some (.int .i64 bd) := fun O => kc _ _ (single _ _) f7_3
  have r7_4 : ∀ O, (w7.alloc O).cell? ⟨w.heap.size + 1 + 1, 0, none⟩ = some (.int .i64 cn) := fun O => kc _ _ (single _ _) f7_4
  have r7_5 : ∀ O, (w7.alloc O).cell? ⟨w.heap.size + 1 + 1, 1, none⟩ = some (.int .i64 cd) := fun O => kc _ _ (single _ _) f7_5
  have rB7 : ∀ O, Below w.heap.size w (w7.alloc O) := fun O => beyond hB7 (single _ _)
  go_wp2_with fail
  refine (live_any _ (pow_later ht (rB7 _))).mono ?_
  rintro e w8 ⟨rfl, hb⟩
  have f8_0 := kc ⟨w.heap.size, 0, none⟩ (.int .i64 an) hb (r7_0 _)
  have f8_1 := kc ⟨w.heap.size, 1, none⟩ (.int .i64 ad) hb (r7_1 _)
  have f8_2 := kc ⟨w.heap.size + 1, 0, none⟩ (.int .i64 an) hb (r7_2 _)
  have f8_3 := kc ⟨w.heap.size + 1, 1, none⟩ (.int .i64 bd) hb (r7_3 _)
  have f8_4 := kc ⟨w.heap.size + 1 + 1, 0, none⟩ (.int .i64 cn) hb (r7_4 _)
  have f8_5 := kc ⟨w.heap.size + 1 + 1, 1, none⟩ (.int .i64 cd) hb (r7_5 _)
  have f8_6 := kc ⟨w7.heap.size, 0, none⟩ (.int .i64 dn) hb (new_cell w7 _ _ 0)
  have f8_7 := kc ⟨w7.heap.size, 1, none⟩ (.int .i64 dd) hb (new_cell w7 _ _ 1)
  have hB8 : Below w.heap.size w w8 := beyond (rB7 _) hb
  clear hb f7_0 f7_1 f7_2 f7_3 f7_4 f7_5 r7_0 r7_1 r7_2 r7_3 r7_4 r7_5 rB7 hB7
  go_wp2_with fail
  refine (HC3.out _).mono ?_
  rintro e w9 ⟨rfl, hb⟩
  have f9_0 := kc ⟨w.heap.size, 0, none⟩ (.int .i64 an) hb f8_0
  have f9_1 := kc ⟨w.heap.size, 1, none⟩ (.int .i64 ad) hb f8_1
  have f9_2 := kc ⟨w.heap.size + 1, 0, none⟩ (.int .i64 an) hb f8_2
  have f9_3 := kc ⟨w.heap.size + 1, 1, none⟩ (.int .i64 bd) hb f8_3
  have f9_4 := kc ⟨w.heap.size + 1 + 1, 0, none⟩ (.int .i64 cn) hb f8_4
  have f9_5 := kc ⟨w.heap.size + 1 + 1, 1, none⟩ (.int .i64 cd) hb f8_5
  have f9_6 := kc ⟨w7.heap.size, 0, none⟩ (.int .i64 dn) hb f8_6
  have f9_7 := kc ⟨w7.heap.size, 1, none⟩ (.int .i64 dd) hb f8_7
  have hB9 : Below w.heap.size w w9 := beyond (hB8) hb
  clear hb f8_0 f8_1 f8_2 f8_3 f8_4 f8_5 f8_6 f8_7 hB8
  go_wp2_with fail
  go_ret
  first | exact ⟨rfl, hB9⟩ | exact ⟨by simp [*], hB9⟩ | exact ⟨by simp [go_sem, *], hB9⟩
theorem cmp_cases (an ad bn bd : Int) : (cmpV an ad bn bd = -1 ∧ cmpV bn bd an ad = 1 ∧ an * bd < bn * ad) ∨ (cmpV an ad bn bd = 0 ∧ cmpV bn bd an ad = 0 ∧ an * bd = bn * ad) ∨ (cmpV an ad bn bd = 1 ∧ cmpV bn bd an ad = -1 ∧ bn * ad < an * bd) := by
  unfold cmpV
  rcases Int.lt_trichotomy (an * bd) (bn * ad) with h | h | h
  · left
    rw [if_pos h, if_neg (by omega), if_pos h]
    exact ⟨rfl, rfl, h⟩
  · right; left
    rw [if_neg (by omega), if_neg (by omega), if_neg (by omega), if_neg (by omega)]
    exact ⟨rfl, rfl, h⟩
  · right; right
    rw [if_neg (by omega), if_pos h, if_pos h]
    exact ⟨rfl, rfl, h⟩
theorem one_of {an ad bn bd : Int} (ra : rightR an ad = true) (rb : rightR bn bd = true) (ha : I64 an) (hb : I64 ad) (hc : I64 bn) (hd : I64 bd) (e : an * bd = bn * ad) : an = bn ∧ ad = bd := by
  obtain ⟨d0, -⟩ := right_iff.1 ra
  obtain ⟨e0, -⟩ := right_iff.1 rb
  have h1 := can_right (P := an) (Q := ad) d0 ra ha.1 ha.2 hb.2 rfl
  have h2 := can_right (P := bn) (Q := bd) e0 rb hc.1 hc.2 hd.2 rfl
  rw [can_congr d0 e0 e, h2] at h1
  simp at h1
  exact ⟨h1.1.symm, h1.2.symm⟩
theorem lt_step {an ad bn bd cn cd : Int} (d0 : 0 < ad) (e0 : 0 < bd) (f0 : 0 < cd) (h1 : an * bd < bn * ad) (h2 : bn * cd ≤ cn * bd) : an * cd < cn * ad := by
  have k1 : an * bd * cd < bn * ad * cd := Int.mul_lt_mul_of_pos_right h1 f0
  have k2 : bn * cd * ad ≤ cn * bd * ad := Int.mul_le_mul_of_nonneg_right h2 (Int.le_of_lt d0)
  have e1 : an * bd * cd = an * cd * bd := by ac_rfl
  have e2 : bn * ad * cd = bn * cd * ad := by ac_rfl
  have e3 : cn * bd * ad = cn * ad * bd := by ac_rfl
  have k3 : an * cd * bd < cn * ad * bd := by omega
  exact Int.lt_of_mul_lt_mul_right k3 (Int.le_of_lt e0)
theorem ratOrders.walk (an : Int) (han : (Lit.int .i64 an).wf = true) (ad : Int) (had : (Lit.int .i64 ad).wf = true) (bn : Int) (hbn : (Lit.int .i64 bn).wf = true) (bd : Int) (hbd : (Lit.int .i64 bd).wf = true) (cn : Int) (hcn : (Lit.int .i64 cn).wf = true) (cd : Int) (hcd : (Lit.int .i64 cd).wf = true) (w : World) (ht : Pow w) :
    Calls Tryd.prog 6 #[rv an ad, rv bn bd, rv cn cd] w fun e w' => e = .returned (.bool true) ∧ Below w.heap.size w w' := by
  have h1 := i64_wf han
  have h2 := i64_wf had
  have h3 := i64_wf hbn
  have h4 := i64_wf hbd
  have h5 := i64_wf hcn
  have h6 := i64_wf hcd
  clear han had hbn hbd hcn hcd
  have kr : ∀ n d, I64 n → I64 d → ∀ r, rightR n d = r → AskR n d r := fun n d a b r e => by have := askR n d a b; rw [e] at this; exact this
  have kx : ∀ n d, I64 n → I64 d → ∀ r, rightR n d = r → AskX n d r := fun n d a b r e => by rw [← e]; exact fun w => xright_any n d w a b
  cases ra : rightR an ad
  · exact orders_not0 an ad bn bd cn cd w ht (kr _ _ h1 h2 _ ra) (kx _ _ h1 h2 _ ra)
  · cases rb : rightR bn bd
    · exact orders_not1 an ad bn bd cn cd w ht (kr _ _ h1 h2 _ ra) (kx _ _ h1 h2 _ ra) (kr _ _ h3 h4 _ rb) (kx _ _ h3 h4 _ rb)
    · cases rc : rightR cn cd
      · exact orders_not2 an ad bn bd cn cd w ht (kr _ _ h1 h2 _ ra) (kx _ _ h1 h2 _ ra) (kr _ _ h3 h4 _ rb) (kx _ _ h3 h4 _ rb) (kr _ _ h5 h6 _ rc) (kx _ _ h5 h6 _ rc)
      · have KA := kr _ _ h1 h2 _ ra
        have KB := kr _ _ h3 h4 _ rb
        have KC := kr _ _ h5 h6 _ rc
        have C0 : AskC an ad bn bd (cmpV an ad bn bd) := fun w => compare_right an ad bn bd w h1 h2 h3 h4 ra rb
        have C1 : AskC bn bd cn cd (cmpV bn bd cn cd) := fun w => compare_right bn bd cn cd w h3 h4 h5 h6 rb rc
        have C2 : AskC an ad cn cd (cmpV an ad cn cd) := fun w => compare_right an ad cn cd w h1 h2 h5 h6 ra rc
        have C3 : AskC bn bd an ad (cmpV bn bd an ad) := fun w => compare_right bn bd an ad w h3 h4 h1 h2 rb ra
        have SB : CallsT 17 an ad bn bd (subT an ad bn bd) := fun w => rsub_any an ad bn bd w h1 h2 h3 h4
        obtain ⟨d0, -⟩ := right_iff.1 ra
        obtain ⟨e0, -⟩ := right_iff.1 rb
        obtain ⟨f0, -⟩ := right_iff.1 rc
        have q := Int.mul_pos d0 e0
        have es : subT an ad bn bd = canR (an * bd - bn * ad) (ad * bd) := by simp [subT, ra, rb]
        have sg : (subT an ad bn bd).2.2 = 0 → ((subT an ad bn bd).1 < 0 ↔ an * bd - bn * ad < 0) ∧ ((subT an ad bn bd).1 = 0 ↔ an * bd - bn * ad = 0) := fun h => by
          rw [es] at h ⊢
          exact can_sign q h
        rcases cmp_cases an ad bn bd with ⟨x, mx, lt⟩ | ⟨x, mx, eq⟩ | ⟨x, mx, gt⟩
        · rw [x] at C0
          rw [mx] at C3
          have ne : ¬ an = bn ∨ (an = bn ∧ ¬ ad = bd) := by
            by_cases c : an = bn
            · right
              refine ⟨c, fun k => ?_⟩
              rw [c, k] at lt
              omega
            · exact Or.inl c
          clear es
          generalize subT an ad bn bd = t at *
          obtain ⟨dn, dd, e⟩ := t
          have sl : e = 0 → dn < 0 := fun h => (sg h).1.2 (by omega)
          clear sg
          rcases cmp_cases bn bd cn cd with ⟨y, -, l2⟩ | ⟨y, -, l2⟩ | ⟨y, -, l2⟩
          · rw [y] at C1
            have z : cmpV an ad cn cd = -1 := by unfold cmpV; rw [if_pos (lt_step d0 e0 f0 lt (by omega))]
            rw [z] at C2
            by_cases c : e = 0
            · subst c
              have := sl rfl
              rcases ne with ne | ⟨rfl, ne⟩
              · exact orders_ln12 an ad cn cd dd bn bd dn w ht ne this (by omega) KA KB KC C0 C1 C2 C3 SB
              · exact orders_ld12 an ad cn cd dd bd dn w ht ne this (by omega) KA KB KC C0 C1 C2 C3 SB
            · rcases ne with ne | ⟨rfl, ne⟩
              · exact orders_ln02 an ad cn cd dd bn bd e dn w ht ne c KA KB KC C0 C1 C2 C3 SB
              · exact orders_ld02 an ad cn cd dd bd e dn w ht ne c KA KB KC C0 C1 C2 C3 SB
          · rw [y] at C1
            have z : cmpV an ad cn cd = -1 := by unfold cmpV; rw [if_pos (lt_step d0 e0 f0 lt (by omega))]
            rw [z] at C2
            by_cases c : e = 0
            · subst c
              have := sl rfl
              rcases ne with ne | ⟨rfl, ne⟩
              · exact orders_ln11 an ad cn cd dd bn bd dn w ht ne this (by omega) KA KB KC C0 C1 C2 C3 SB
              · exact orders_ld11 an ad cn cd dd bd dn w ht ne this (by omega) KA KB KC C0 C1 C2 C3 SB
            · rcases ne with ne | ⟨rfl, ne⟩
              · exact orders_ln01 an ad cn cd dd bn bd e dn w ht ne c KA KB KC C0 C1 C2 C3 SB
              · exact orders_ld01 an ad cn cd dd bd e dn w ht ne c KA KB KC C0 C1 C2 C3 SB
          · rw [y] at C1
            by_cases c : e = 0
            · subst c
              have := sl rfl
              rcases ne with ne | ⟨rfl, ne⟩
              · exact orders_ln10 an ad cn cd dd bn bd dn _ w ht ne this (by omega) KA KB KC C0 C1 C2 C3 SB
              · exact orders_ld10 an ad cn cd dd bd dn _ w ht ne this (by omega) KA KB KC C0 C1 C2 C3 SB
            · rcases ne with ne | ⟨rfl, ne⟩
              · exact orders_ln00 an ad cn cd dd bn bd e dn _ w ht ne c KA KB KC C0 C1 C2 C3 SB
              · exact orders_ld00 an ad cn cd dd bd e dn _ w ht ne c KA KB KC C0 C1 C2 C3 SB
        · obtain ⟨rfl, rfl⟩ := one_of ra rb h1 h2 h3 h4 eq
          rw [x] at C0 C3
          have t0 : subT an ad an ad = (0, 1, 0) := by
            rw [es, Int.sub_self]
            exact can_right q (by decide +kernel) (by decide) (by decide) (by decide) (by simp)
          rw [t0] at SB
          rcases cmp_cases an ad cn cd with ⟨y, -, l2⟩ | ⟨y, -, l2⟩ | ⟨y, -, l2⟩
          · rw [y] at C1
            exact orders_e2 an ad cn cd 1 w ht KA KA KC C0 C1 C1 C0 SB
          · rw [y] at C1
            exact orders_e1 an ad cn cd 1 w ht KA KA KC C0 C1 C1 C0 SB
          · rw [y] at C1
            exact orders_e0 an ad cn cd 1 1 w ht KA KA KC C0 C1 C1 C0 SB
        · rw [x] at C0
          rw [mx] at C3
          have ne : ¬ an = bn ∨ (an = bn ∧ ¬ ad = bd) := by
            by_cases c : an = bn
            · right
              refine ⟨c, fun k => ?_⟩
              rw [c, k] at gt
              omega
            · exact Or.inl c
          clear es
          generalize subT an ad bn bd = t at *
          obtain ⟨dn, dd, e⟩ := t
          have sl : e = 0 → ¬ dn < 0 ∧ ¬ dn = 0 := fun h => ⟨fun k => by have := (sg h).1.1 k; omega, fun k => by have := (sg h).2.1 k; omega⟩
          clear sg
          by_cases c : e = 0
          · subst c
            obtain ⟨s1, s2⟩ := sl rfl
            rcases ne with ne | ⟨rfl, ne⟩
            · exact orders_gn1 an ad cn cd dd bn bd dn _ _ w ht ne s1 s2 KA KB KC C0 C1 C2 C3 SB
            · exact orders_gd1 an ad cn cd dd bd dn _ _ w ht ne s1 s2 KA KB KC C0 C1 C2 C3 SB
          · rcases ne with ne | ⟨rfl, ne⟩
            · exact orders_gn0 an ad cn cd dd bn bd e dn _ _ w ht ne c KA KB KC C0 C1 C2 C3 SB
            · exact orders_gd0 an ad cn cd dd bd e dn _ _ w ht ne c KA KB KC C0 C1 C2 C3 SB
end Go.Proofs.YthklhiicnggonaaDoor
