/-
  rat.Parse, by what it calls.
-/
import Derived.Test.YteifpplemohdcaaGreatDoorQ9
import Derived.Test.YteifpplemohdcaaGreatDoorQ5
namespace Go.Proofs.YteifpplemohdcaaGreatDoor
open Go.RowKit Go.Shelf
set_option linter.unusedVariables false
set_option maxRecDepth 100000 in
set_option maxHeartbeats 4000000 in
theorem rparse_a0 (s t b p : ByteArray) (x1 x2 : Int) (w : World)
    (HC : Hid (∀ w, Calls Tryz.prog 28 #[.string s, .string ⟨#[47]⟩] w fun e w' => e = .returned (.tuple #[.string t, .string b, .bool false]) ∧ Below w.heap.size w w'))
    (HR1 : Hid (∀ w', Below w.heap.size w w' → Calls Tryz.prog 29 #[.string t] w' fun e w'' => e = .returned (.tuple #[.int .i64 x1, .bool false]) ∧ Below w'.heap.size w' w''))
    : Calls Tryz.prog 14 #[.string s] w fun e w' => e = .returned (.tuple #[rv 0 0, .int .i64 7]) ∧ Below w.heap.size w w' := by
  have B0 := single w (.cells #[.int .i64 0, .int .i64 0] 33)
  go_enter Tryz.func14, Tryz.ntmps14
  go_wp2_with fail
  refine (HC.out _).mono ?_
  rintro e w1 ⟨rfl, hb⟩
  have s0 := kc ⟨w.heap.size, 0, none⟩ (.int .i64 0) hb (by simp [go_sem])
  have f0 := kf ⟨w.heap.size, 0, none⟩ (.int .i64 0) hb (by simp [go_sem]) (by simp [go_sem])
  have s1 := kc ⟨w.heap.size, 1, none⟩ (.int .i64 0) hb (by simp [go_sem])
  have f1 := kf ⟨w.heap.size, 1, none⟩ (.int .i64 0) hb (by simp [go_sem]) (by simp [go_sem])
  have B1 : Below w.heap.size w w1 := beyond B0 hb
  clear hb B0
  go_wp2_with fail
  refine (HR1.out _ B1).mono ?_
  rintro e w2 ⟨rfl, hb⟩
  have s0_2 := kc _ _ hb s0
  have f0_2 := kf _ _ hb s0 f0
  have s1_2 := kc _ _ hb s1
  have f1_2 := kf _ _ hb s1 f1
  have B_2 := beyond B1 hb
  clear hb B1 s0 s1 f0 f1
  go_upto_region 7 with (fail)
  have S0 : (w2.alloc (.cells #[.int .i64 x1, .int .i64 1] 33)).cell? ⟨w.heap.size, 0, none⟩ = some (.int .i64 0) := kc _ _ (single _ _) s0_2
  have F0 : (w2.alloc (.cells #[.int .i64 x1, .int .i64 1] 33)).frozen? ⟨w.heap.size, 0, none⟩ = false := kf _ _ (single _ _) s0_2 f0_2
  have S1 : (w2.alloc (.cells #[.int .i64 x1, .int .i64 1] 33)).cell? ⟨w.heap.size, 1, none⟩ = some (.int .i64 0) := kc _ _ (single _ _) s1_2
  have F1 : (w2.alloc (.cells #[.int .i64 x1, .int .i64 1] 33)).frozen? ⟨w.heap.size, 1, none⟩ = false := kf _ _ (single _ _) s1_2 f1_2
  have R0 : (w2.alloc (.cells #[.int .i64 x1, .int .i64 1] 33)).cell? ⟨w2.heap.size, 0, none⟩ = some (.int .i64 x1) := new_cell w2 _ _ 0
  have R1 : (w2.alloc (.cells #[.int .i64 x1, .int .i64 1] 33)).cell? ⟨w2.heap.size, 1, none⟩ = some (.int .i64 1) := new_cell w2 _ _ 1
  have BX : Below w.heap.size w (w2.alloc (.cells #[.int .i64 x1, .int .i64 1] 33)) := beyond B_2 (single _ _)
  have nr : ¬ w2.heap.size = w.heap.size := by have h : w.heap.size < w2.heap.size := World.block_lt_of_cell? _ _ s0_2; omega
  clear B_2 s0_2 s1_2 f0_2 f1_2
  generalize (w2.alloc (.cells #[.int .i64 x1, .int .i64 1] 33)) = WX at *
  generalize w2.heap.size = rb at *
  have BY := BX
  clear BX
  go_wp2_with fail
  refine bodyPost_ret (v := .tuple #[rv 0 0, .int .i64 7]) (by simp [results, Tryz.results14, go_sem, *]) rfl ⟨rfl, ?_⟩
  first | exact BY | exact set2 BY (Nat.le_refl _) _ _
set_option maxRecDepth 100000 in
set_option maxHeartbeats 4000000 in
theorem rparse_a1 (s t b p : ByteArray) (x1 x2 : Int) (w : World)
    (HC : Hid (∀ w, Calls Tryz.prog 28 #[.string s, .string ⟨#[47]⟩] w fun e w' => e = .returned (.tuple #[.string t, .string b, .bool true]) ∧ Below w.heap.size w w'))
    (HR1 : Hid (∀ w', Below w.heap.size w w' → Calls Tryz.prog 29 #[.string t] w' fun e w'' => e = .returned (.tuple #[.int .i64 x1, .bool false]) ∧ Below w'.heap.size w' w''))
    : Calls Tryz.prog 14 #[.string s] w fun e w' => e = .returned (.tuple #[rv 0 0, .int .i64 7]) ∧ Below w.heap.size w w' := by
  have B0 := single w (.cells #[.int .i64 0, .int .i64 0] 33)
  go_enter Tryz.func14, Tryz.ntmps14
  go_wp2_with fail
  refine (HC.out _).mono ?_
  rintro e w1 ⟨rfl, hb⟩
  have s0 := kc ⟨w.heap.size, 0, none⟩ (.int .i64 0) hb (by simp [go_sem])
  have f0 := kf ⟨w.heap.size, 0, none⟩ (.int .i64 0) hb (by simp [go_sem]) (by simp [go_sem])
  have s1 := kc ⟨w.heap.size, 1, none⟩ (.int .i64 0) hb (by simp [go_sem])
  have f1 := kf ⟨w.heap.size, 1, none⟩ (.int .i64 0) hb (by simp [go_sem]) (by simp [go_sem])
  have B1 : Below w.heap.size w w1 := beyond B0 hb
  clear hb B0
  go_wp2_with fail
  refine (HR1.out _ B1).mono ?_
  rintro e w2 ⟨rfl, hb⟩
  have s0_2 := kc _ _ hb s0
  have f0_2 := kf _ _ hb s0 f0
  have s1_2 := kc _ _ hb s1
  have f1_2 := kf _ _ hb s1 f1
  have B_2 := beyond B1 hb
  clear hb B1 s0 s1 f0 f1
  go_upto_region 7 with (fail)
  have S0 : (w2.alloc (.cells #[.int .i64 x1, .int .i64 1] 33)).cell? ⟨w.heap.size, 0, none⟩ = some (.int .i64 0) := kc _ _ (single _ _) s0_2
  have F0 : (w2.alloc (.cells #[.int .i64 x1, .int .i64 1] 33)).frozen? ⟨w.heap.size, 0, none⟩ = false := kf _ _ (single _ _) s0_2 f0_2
  have S1 : (w2.alloc (.cells #[.int .i64 x1, .int .i64 1] 33)).cell? ⟨w.heap.size, 1, none⟩ = some (.int .i64 0) := kc _ _ (single _ _) s1_2
  have F1 : (w2.alloc (.cells #[.int .i64 x1, .int .i64 1] 33)).frozen? ⟨w.heap.size, 1, none⟩ = false := kf _ _ (single _ _) s1_2 f1_2
  have R0 : (w2.alloc (.cells #[.int .i64 x1, .int .i64 1] 33)).cell? ⟨w2.heap.size, 0, none⟩ = some (.int .i64 x1) := new_cell w2 _ _ 0
  have R1 : (w2.alloc (.cells #[.int .i64 x1, .int .i64 1] 33)).cell? ⟨w2.heap.size, 1, none⟩ = some (.int .i64 1) := new_cell w2 _ _ 1
  have BX : Below w.heap.size w (w2.alloc (.cells #[.int .i64 x1, .int .i64 1] 33)) := beyond B_2 (single _ _)
  have nr : ¬ w2.heap.size = w.heap.size := by have h : w.heap.size < w2.heap.size := World.block_lt_of_cell? _ _ s0_2; omega
  clear B_2 s0_2 s1_2 f0_2 f1_2
  generalize (w2.alloc (.cells #[.int .i64 x1, .int .i64 1] 33)) = WX at *
  generalize w2.heap.size = rb at *
  have BY := BX
  clear BX
  go_wp2_with fail
  refine bodyPost_ret (v := .tuple #[rv 0 0, .int .i64 7]) (by simp [results, Tryz.results14, go_sem, *]) rfl ⟨rfl, ?_⟩
  first | exact BY | exact set2 BY (Nat.le_refl _) _ _
set_option maxRecDepth 100000 in
set_option maxHeartbeats 4000000 in
theorem rparse_b1 (s t b p : ByteArray) (x1 x2 : Int) (w : World)
    (HC : Hid (∀ w, Calls Tryz.prog 28 #[.string s, .string ⟨#[47]⟩] w fun e w' => e = .returned (.tuple #[.string t, .string b, .bool false]) ∧ Below w.heap.size w w'))
    (HR1 : Hid (∀ w', Below w.heap.size w w' → Calls Tryz.prog 29 #[.string t] w' fun e w'' => e = .returned (.tuple #[.int .i64 x1, .bool true]) ∧ Below w'.heap.size w' w''))
    (HP : Hid (∀ w', Below w.heap.size w w' → Calls Tryz.prog 21 #[rv x1 1] w' fun e w'' => e = .returned (.string p) ∧ Below w'.heap.size w' w'')) (he : (p.toList == s.toList) = true)
    : Calls Tryz.prog 14 #[.string s] w fun e w' => e = .returned (.tuple #[rv x1 1, .int .i64 0]) ∧ Below w.heap.size w w' := by
  have B0 := single w (.cells #[.int .i64 0, .int .i64 0] 33)
  go_enter Tryz.func14, Tryz.ntmps14
  go_wp2_with fail
  refine (HC.out _).mono ?_
  rintro e w1 ⟨rfl, hb⟩
  have s0 := kc ⟨w.heap.size, 0, none⟩ (.int .i64 0) hb (by simp [go_sem])
  have f0 := kf ⟨w.heap.size, 0, none⟩ (.int .i64 0) hb (by simp [go_sem]) (by simp [go_sem])
  have s1 := kc ⟨w.heap.size, 1, none⟩ (.int .i64 0) hb (by simp [go_sem])
  have f1 := kf ⟨w.heap.size, 1, none⟩ (.int .i64 0) hb (by simp [go_sem]) (by simp [go_sem])
  have B1 : Below w.heap.size w w1 := beyond B0 hb
  clear hb B0
  go_wp2_with fail
  refine (HR1.out _ B1).mono ?_
  rintro e w2 ⟨rfl, hb⟩
  have s0_2 := kc _ _ hb s0
  have f0_2 := kf _ _ hb s0 f0
  have s1_2 := kc _ _ hb s1
  have f1_2 := kf _ _ hb s1 f1
  have B_2 := beyond B1 hb
  clear hb B1 s0 s1 f0 f1
  go_upto_region 7 with (fail)
  have S0 : (w2.alloc (.cells #[.int .i64 x1, .int .i64 1] 33)).cell? ⟨w.heap.size, 0, none⟩ = some (.int .i64 0) := kc _ _ (single _ _) s0_2
  have F0 : (w2.alloc (.cells #[.int .i64 x1, .int .i64 1] 33)).frozen? ⟨w.heap.size, 0, none⟩ = false := kf _ _ (single _ _) s0_2 f0_2
  have S1 : (w2.alloc (.cells #[.int .i64 x1, .int .i64 1] 33)).cell? ⟨w.heap.size, 1, none⟩ = some (.int .i64 0) := kc _ _ (single _ _) s1_2
  have F1 : (w2.alloc (.cells #[.int .i64 x1, .int .i64 1] 33)).frozen? ⟨w.heap.size, 1, none⟩ = false := kf _ _ (single _ _) s1_2 f1_2
  have R0 : (w2.alloc (.cells #[.int .i64 x1, .int .i64 1] 33)).cell? ⟨w2.heap.size, 0, none⟩ = some (.int .i64 x1) := new_cell w2 _ _ 0
  have R1 : (w2.alloc (.cells #[.int .i64 x1, .int .i64 1] 33)).cell? ⟨w2.heap.size, 1, none⟩ = some (.int .i64 1) := new_cell w2 _ _ 1
  have BX : Below w.heap.size w (w2.alloc (.cells #[.int .i64 x1, .int .i64 1] 33)) := beyond B_2 (single _ _)
  have nr : ¬ w2.heap.size = w.heap.size := by have h : w.heap.size < w2.heap.size := World.block_lt_of_cell? _ _ s0_2; omega
  clear B_2 s0_2 s1_2 f0_2 f1_2
  generalize (w2.alloc (.cells #[.int .i64 x1, .int .i64 1] 33)) = WX at *
  generalize w2.heap.size = rb at *
  go_wp2_with fail
  refine (HP.out _ BX).mono ?_
  rintro e w4 ⟨rfl, hb⟩
  have S0_ := kc _ _ hb S0
  have F0_ := kf _ _ hb S0 F0
  have R0_ := kc _ _ hb R0
  have S1_ := kc _ _ hb S1
  have F1_ := kf _ _ hb S1 F1
  have R1_ := kc _ _ hb R1
  have BY := beyond BX hb
  clear hb BX S0 S1 F0 F1 R0 R1
  go_wp2_with fail
  refine bodyPost_ret (v := .tuple #[rv x1 1, .int .i64 0]) (by simp [results, Tryz.results14, go_sem, *]) rfl ⟨rfl, ?_⟩
  first | exact BY | exact set2 BY (Nat.le_refl _) _ _
set_option maxRecDepth 100000 in
set_option maxHeartbeats 4000000 in
theorem rparse_b0 (s t b p : ByteArray) (x1 x2 : Int) (w : World)
    (HC : Hid (∀ w, Calls Tryz.prog 28 #[.string s, .string ⟨#[47]⟩] w fun e w' => e = .returned (.tuple #[.string t, .string b, .bool false]) ∧ Below w.heap.size w w'))
    (HR1 : Hid (∀ w', Below w.heap.size w w' → Calls Tryz.prog 29 #[.string t] w' fun e w'' => e = .returned (.tuple #[.int .i64 x1, .bool true]) ∧ Below w'.heap.size w' w''))
    (HP : Hid (∀ w', Below w.heap.size w w' → Calls Tryz.prog 21 #[rv x1 1] w' fun e w'' => e = .returned (.string p) ∧ Below w'.heap.size w' w'')) (he : (p.toList == s.toList) = false)
    : Calls Tryz.prog 14 #[.string s] w fun e w' => e = .returned (.tuple #[rv 0 0, .int .i64 7]) ∧ Below w.heap.size w w' := by
  have B0 := single w (.cells #[.int .i64 0, .int .i64 0] 33)
  go_enter Tryz.func14, Tryz.ntmps14
  go_wp2_with fail
  refine (HC.out _).mono ?_
  rintro e w1 ⟨rfl, hb⟩
  have s0 := kc ⟨w.heap.size, 0, none⟩ (.int .i64 0) hb (by simp [go_sem])
  have f0 := kf ⟨w.heap.size, 0, none⟩ (.int .i64 0) hb (by simp [go_sem]) (by simp [go_sem])
  have s1 := kc ⟨w.heap.size, 1, none⟩ (.int .i64 0) hb (by simp [go_sem])
  have f1 := kf ⟨w.heap.size, 1, none⟩ (.int .i64 0) hb (by simp [go_sem]) (by simp [go_sem])
  have B1 : Below w.heap.size w w1 := beyond B0 hb
  clear hb B0
  go_wp2_with fail
  refine (HR1.out _ B1).mono ?_
  rintro e w2 ⟨rfl, hb⟩
  have s0_2 := kc _ _ hb s0
  have f0_2 := kf _ _ hb s0 f0
  have s1_2 := kc _ _ hb s1
  have f1_2 := kf _ _ hb s1 f1
  have B_2 := beyond B1 hb
  clear hb B1 s0 s1 f0 f1
  go_upto_region 7 with (fail)
  have S0 : (w2.alloc (.cells #[.int .i64 x1, .int .i64 1] 33)).cell? ⟨w.heap.size, 0, none⟩ = some (.int .i64 0) := kc _ _ (single _ _) s0_2
  have F0 : (w2.alloc (.cells #[.int .i64 x1, .int .i64 1] 33)).frozen? ⟨w.heap.size, 0, none⟩ = false := kf _ _ (single _ _) s0_2 f0_2
  have S1 : (w2.alloc (.cells #[.int .i64 x1, .int .i64 1] 33)).cell? ⟨w.heap.size, 1, none⟩ = some (.int .i64 0) := kc _ _ (single _ _) s1_2
  have F1 : (w2.alloc (.cells #[.int .i64 x1, .int .i64 1] 33)).frozen? ⟨w.heap.size, 1, none⟩ = false := kf _ _ (single _ _) s1_2 f1_2
  have R0 : (w2.alloc (.cells #[.int .i64 x1, .int .i64 1] 33)).cell? ⟨w2.heap.size, 0, none⟩ = some (.int .i64 x1) := new_cell w2 _ _ 0
  have R1 : (w2.alloc (.cells #[.int .i64 x1, .int .i64 1] 33)).cell? ⟨w2.heap.size, 1, none⟩ = some (.int .i64 1) := new_cell w2 _ _ 1
  have BX : Below w.heap.size w (w2.alloc (.cells #[.int .i64 x1, .int .i64 1] 33)) := beyond B_2 (single _ _)
  have nr : ¬ w2.heap.size = w.heap.size := by have h : w.heap.size < w2.heap.size := World.block_lt_of_cell? _ _ s0_2; omega
  clear B_2 s0_2 s1_2 f0_2 f1_2
  generalize (w2.alloc (.cells #[.int .i64 x1, .int .i64 1] 33)) = WX at *
  generalize w2.heap.size = rb at *
  go_wp2_with fail
  refine (HP.out _ BX).mono ?_
  rintro e w4 ⟨rfl, hb⟩
  have S0_ := kc _ _ hb S0
  have F0_ := kf _ _ hb S0 F0
  have R0_ := kc _ _ hb R0
  have S1_ := kc _ _ hb S1
  have F1_ := kf _ _ hb S1 F1
  have R1_ := kc _ _ hb R1
  have BY := beyond BX hb
  clear hb BX S0 S1 F0 F1 R0 R1
  go_wp2_with fail
  refine bodyPost_ret (v := .tuple #[rv 0 0, .int .i64 7]) (by simp [results, Tryz.results14, go_sem, *]) rfl ⟨rfl, ?_⟩
  first | exact BY | exact set2 BY (Nat.le_refl _) _ _
set_option maxRecDepth 100000 in
set_option maxHeartbeats 4000000 in
theorem rparse_c (s t b p : ByteArray) (x1 x2 : Int) (w : World)
    (HC : Hid (∀ w, Calls Tryz.prog 28 #[.string s, .string ⟨#[47]⟩] w fun e w' => e = .returned (.tuple #[.string t, .string b, .bool true]) ∧ Below w.heap.size w w'))
    (HR1 : Hid (∀ w', Below w.heap.size w w' → Calls Tryz.prog 29 #[.string t] w' fun e w'' => e = .returned (.tuple #[.int .i64 x1, .bool true]) ∧ Below w'.heap.size w' w''))
    (HR2 : Hid (∀ w', Below w.heap.size w w' → Calls Tryz.prog 29 #[.string b] w' fun e w'' => e = .returned (.tuple #[.int .i64 x2, .bool false]) ∧ Below w'.heap.size w' w''))
    : Calls Tryz.prog 14 #[.string s] w fun e w' => e = .returned (.tuple #[rv 0 0, .int .i64 7]) ∧ Below w.heap.size w w' := by
  have B0 := single w (.cells #[.int .i64 0, .int .i64 0] 33)
  go_enter Tryz.func14, Tryz.ntmps14
  go_wp2_with fail
  refine (HC.out _).mono ?_
  rintro e w1 ⟨rfl, hb⟩
  have s0 := kc ⟨w.heap.size, 0, none⟩ (.int .i64 0) hb (by simp [go_sem])
  have f0 := kf ⟨w.heap.size, 0, none⟩ (.int .i64 0) hb (by simp [go_sem]) (by simp [go_sem])
  have s1 := kc ⟨w.heap.size, 1, none⟩ (.int .i64 0) hb (by simp [go_sem])
  have f1 := kf ⟨w.heap.size, 1, none⟩ (.int .i64 0) hb (by simp [go_sem]) (by simp [go_sem])
  have B1 : Below w.heap.size w w1 := beyond B0 hb
  clear hb B0
  go_wp2_with fail
  refine (HR1.out _ B1).mono ?_
  rintro e w2 ⟨rfl, hb⟩
  have s0_2 := kc _ _ hb s0
  have f0_2 := kf _ _ hb s0 f0
  have s1_2 := kc _ _ hb s1
  have f1_2 := kf _ _ hb s1 f1
  have B_2 := beyond B1 hb
  clear hb B1 s0 s1 f0 f1
  go_wp2_with fail
  refine (HR2.out _ B_2).mono ?_
  rintro e w3 ⟨rfl, hb⟩
  have s0_3 := kc _ _ hb s0_2
  have f0_3 := kf _ _ hb s0_2 f0_2
  have s1_3 := kc _ _ hb s1_2
  have f1_3 := kf _ _ hb s1_2 f1_2
  have B_3 := beyond B_2 hb
  clear hb B_2 s0_2 s1_2 f0_2 f1_2
  go_upto_region 7 with (fail)
  have S0 : (w3.alloc (.cells #[.int .i64 x1, .int .i64 x2] 33)).cell? ⟨w.heap.size, 0, none⟩ = some (.int .i64 0) := kc _ _ (single _ _) s0_3
  have F0 : (w3.alloc (.cells #[.int .i64 x1, .int .i64 x2] 33)).frozen? ⟨w.heap.size, 0, none⟩ = false := kf _ _ (single _ _) s0_3 f0_3
  have S1 : (w3.alloc (.cells #[.int .i64 x1, .int .i64 x2] 33)).cell? ⟨w.heap.size, 1, none⟩ = some (.int .i64 0) := kc _ _ (single _ _) s1_3
  have F1 : (w3.alloc (.cells #[.int .i64 x1, .int .i64 x2] 33)).frozen? ⟨w.heap.size, 1, none⟩ = false := kf _ _ (single _ _) s1_3 f1_3
  have R0 : (w3.alloc (.cells #[.int .i64 x1, .int .i64 x2] 33)).cell? ⟨w3.heap.size, 0, none⟩ = some (.int .i64 x1) := new_cell w3 _ _ 0
  have R1 : (w3.alloc (.cells #[.int .i64 x1, .int .i64 x2] 33)).cell? ⟨w3.heap.size, 1, none⟩ = some (.int .i64 x2) := new_cell w3 _ _ 1
  have BX : Below w.heap.size w (w3.alloc (.cells #[.int .i64 x1, .int .i64 x2] 33)) := beyond B_3 (single _ _)
  have nr : ¬ w3.heap.size = w.heap.size := by have h : w.heap.size < w3.heap.size := World.block_lt_of_cell? _ _ s0_3; omega
  clear B_3 s0_3 s1_3 f0_3 f1_3
  generalize (w3.alloc (.cells #[.int .i64 x1, .int .i64 x2] 33)) = WX at *
  generalize w3.heap.size = rb at *
  have BY := BX
  clear BX
  go_wp2_with fail
  refine bodyPost_ret (v := .tuple #[rv 0 0, .int .i64 7]) (by simp [results, Tryz.results14, go_sem, *]) rfl ⟨rfl, ?_⟩
  first | exact BY | exact set2 BY (Nat.le_refl _) _ _
set_option maxRecDepth 100000 in
set_option maxHeartbeats 4000000 in
theorem rparse_c1 (s t b p : ByteArray) (x1 x2 : Int) (w : World)
    (HC : Hid (∀ w, Calls Tryz.prog 28 #[.string s, .string ⟨#[47]⟩] w fun e w' => e = .returned (.tuple #[.string t, .string b, .bool true]) ∧ Below w.heap.size w w'))
    (HR1 : Hid (∀ w', Below w.heap.size w w' → Calls Tryz.prog 29 #[.string t] w' fun e w'' => e = .returned (.tuple #[.int .i64 x1, .bool true]) ∧ Below w'.heap.size w' w''))
    (HR2 : Hid (∀ w', Below w.heap.size w w' → Calls Tryz.prog 29 #[.string b] w' fun e w'' => e = .returned (.tuple #[.int .i64 x2, .bool true]) ∧ Below w'.heap.size w' w''))
    (HP : Hid (∀ w', Below w.heap.size w w' → Calls Tryz.prog 21 #[rv x1 x2] w' fun e w'' => e = .returned (.string p) ∧ Below w'.heap.size w' w'')) (he : (p.toList == s.toList) = true)
    : Calls Tryz.prog 14 #[.string s] w fun e w' => e = .returned (.tuple #[rv x1 x2, .int .i64 0]) ∧ Below w.heap.size w w' := by
  have B0 := single w (.cells #[.int .i64 0, .int .i64 0] 33)
  go_enter Tryz.func14, Tryz.ntmps14
  go_wp2_with fail
  refine (HC.out _).mono ?_
  rintro e w1 ⟨rfl, hb⟩
  have s0 := kc ⟨w.heap.size, 0, none⟩ (.int .i64 0) hb (by simp [go_sem])
  have f0 := kf ⟨w.heap.size, 0, none⟩ (.int .i64 0) hb (by simp [go_sem]) (by simp [go_sem])
  have s1 := kc ⟨w.heap.size, 1, none⟩ (.int .i64 0) hb (by simp [go_sem])
  have f1 := kf ⟨w.heap.size, 1, none⟩ (.int .i64 0) hb (by simp [go_sem]) (by simp [go_sem])
  have B1 : Below w.heap.size w w1 := beyond B0 hb
  clear hb B0
  go_wp2_with fail
  refine (HR1.out _ B1).mono ?_
  rintro e w2 ⟨rfl, hb⟩
  have s0_2 := kc _ _ hb s0
  have f0_2 := kf _ _ hb s0 f0
  have s1_2 := kc _ _ hb s1
  have f1_2 := kf _ _ hb s1 f1
  have B_2 := beyond B1 hb
  clear hb B1 s0 s1 f0 f1
  go_wp2_with fail
  refine (HR2.out _ B_2).mono ?_
  rintro e w3 ⟨rfl, hb⟩
  have s0_3 := kc _ _ hb s0_2
  have f0_3 := kf _ _ hb s0_2 f0_2
  have s1_3 := kc _ _ hb s1_2
  have f1_3 := kf _ _ hb s1_2 f1_2
  have B_3 := beyond B_2 hb
  clear hb B_2 s0_2 s1_2 f0_2 f1_2
  go_upto_region 7 with (fail)
  have S0 : (w3.alloc (.cells #[.int .i64 x1, .int .i64 x2] 33)).cell? ⟨w.heap.size, 0, none⟩ = some (.int .i64 0) := kc _ _ (single _ _) s0_3
  have F0 : (w3.alloc (.cells #[.int .i64 x1, .int .i64 x2] 33)).frozen? ⟨w.heap.size, 0, none⟩ = false := kf _ _ (single _ _) s0_3 f0_3
  have S1 : (w3.alloc (.cells #[.int .i64 x1, .int .i64 x2] 33)).cell? ⟨w.heap.size, 1, none⟩ = some (.int .i64 0) := kc _ _ (single _ _) s1_3
  have F1 : (w3.alloc (.cells #[.int .i64 x1, .int .i64 x2] 33)).frozen? ⟨w.heap.size, 1, none⟩ = false := kf _ _ (single _ _) s1_3 f1_3
  have R0 : (w3.alloc (.cells #[.int .i64 x1, .int .i64 x2] 33)).cell? ⟨w3.heap.size, 0, none⟩ = some (.int .i64 x1) := new_cell w3 _ _ 0
  have R1 : (w3.alloc (.cells #[.int .i64 x1, .int .i64 x2] 33)).cell? ⟨w3.heap.size, 1, none⟩ = some (.int .i64 x2) := new_cell w3 _ _ 1
  have BX : Below w.heap.size w (w3.alloc (.cells #[.int .i64 x1, .int .i64 x2] 33)) := beyond B_3 (single _ _)
  have nr : ¬ w3.heap.size = w.heap.size := by have h : w.heap.size < w3.heap.size := World.block_lt_of_cell? _ _ s0_3; omega
  clear B_3 s0_3 s1_3 f0_3 f1_3
  generalize (w3.alloc (.cells #[.int .i64 x1, .int .i64 x2] 33)) = WX at *
  generalize w3.heap.size = rb at *
  go_wp2_with fail
  refine (HP.out _ BX).mono ?_
  rintro e w4 ⟨rfl, hb⟩
  have S0_ := kc _ _ hb S0
  have F0_ := kf _ _ hb S0 F0
  have R0_ := kc _ _ hb R0
  have S1_ := kc _ _ hb S1
  have F1_ := kf _ _ hb S1 F1
  have R1_ := kc _ _ hb R1
  have BY := beyond BX hb
  clear hb BX S0 S1 F0 F1 R0 R1
  go_wp2_with fail
  refine bodyPost_ret (v := .tuple #[rv x1 x2, .int .i64 0]) (by simp [results, Tryz.results14, go_sem, *]) rfl ⟨rfl, ?_⟩
  first | exact BY | exact set2 BY (Nat.le_refl _) _ _
set_option maxRecDepth 100000 in
set_option maxHeartbeats 4000000 in
theorem rparse_c0 (s t b p : ByteArray) (x1 x2 : Int) (w : World)
    (HC : Hid (∀ w, Calls Tryz.prog 28 #[.string s, .string ⟨#[47]⟩] w fun e w' => e = .returned (.tuple #[.string t, .string b, .bool true]) ∧ Below w.heap.size w w'))
    (HR1 : Hid (∀ w', Below w.heap.size w w' → Calls Tryz.prog 29 #[.string t] w' fun e w'' => e = .returned (.tuple #[.int .i64 x1, .bool true]) ∧ Below w'.heap.size w' w''))
    (HR2 : Hid (∀ w', Below w.heap.size w w' → Calls Tryz.prog 29 #[.string b] w' fun e w'' => e = .returned (.tuple #[.int .i64 x2, .bool true]) ∧ Below w'.heap.size w' w''))
    (HP : Hid (∀ w', Below w.heap.size w w' → Calls Tryz.prog 21 #[rv x1 x2] w' fun e w'' => e = .returned (.string p) ∧ Below w'.heap.size w' w'')) (he : (p.toList == s.toList) = false)
    : Calls Tryz.prog 14 #[.string s] w fun e w' => e = .returned (.tuple #[rv 0 0, .int .i64 7]) ∧ Below w.heap.size w w' := by
  have B0 := single w (.cells #[.int .i64 0, .int .i64 0] 33)
  go_enter Tryz.func14, Tryz.ntmps14
  go_wp2_with fail
  refine (HC.out _).mono ?_
  rintro e w1 ⟨rfl, hb⟩
  have s0 := kc ⟨w.heap.size, 0, none⟩ (.int .i64 0) hb (by simp [go_sem])
  have f0 := kf ⟨w.heap.size, 0, none⟩ (.int .i64 0) hb (by simp [go_sem]) (by simp [go_sem])
  have s1 := kc ⟨w.heap.size, 1, none⟩ (.int .i64 0) hb (by simp [go_sem])
  have f1 := kf ⟨w.heap.size, 1, none⟩ (.int .i64 0) hb (by simp [go_sem]) (by simp [go_sem])
  have B1 : Below w.heap.size w w1 := beyond B0 hb
  clear hb B0
  go_wp2_with fail
  refine (HR1.out _ B1).mono ?_
  rintro e w2 ⟨rfl, hb⟩
  have s0_2 := kc _ _ hb s0
  have f0_2 := kf _ _ hb s0 f0
  have s1_2 := kc _ _ hb s1
  have f1_2 := kf _ _ hb s1 f1
  have B_2 := beyond B1 hb
  clear hb B1 s0 s1 f0 f1
  go_wp2_with fail
  refine (HR2.out _ B_2).mono ?_
  rintro e w3 ⟨rfl, hb⟩
  have s0_3 := kc _ _ hb s0_2
  have f0_3 := kf _ _ hb s0_2 f0_2
  have s1_3 := kc _ _ hb s1_2
  have f1_3 := kf _ _ hb s1_2 f1_2
  have B_3 := beyond B_2 hb
  clear hb B_2 s0_2 s1_2 f0_2 f1_2
  go_upto_region 7 with (fail)
  have S0 : (w3.alloc (.cells #[.int .i64 x1, .int .i64 x2] 33)).cell? ⟨w.heap.size, 0, none⟩ = some (.int .i64 0) := kc _ _ (single _ _) s0_3
  have F0 : (w3.alloc (.cells #[.int .i64 x1, .int .i64 x2] 33)).frozen? ⟨w.heap.size, 0, none⟩ = false := kf _ _ (single _ _) s0_3 f0_3
  have S1 : (w3.alloc (.cells #[.int .i64 x1, .int .i64 x2] 33)).cell? ⟨w.heap.size, 1, none⟩ = some (.int .i64 0) := kc _ _ (single _ _) s1_3
  have F1 : (w3.alloc (.cells #[.int .i64 x1, .int .i64 x2] 33)).frozen? ⟨w.heap.size, 1, none⟩ = false := kf _ _ (single _ _) s1_3 f1_3
  have R0 : (w3.alloc (.cells #[.int .i64 x1, .int .i64 x2] 33)).cell? ⟨w3.heap.size, 0, none⟩ = some (.int .i64 x1) := new_cell w3 _ _ 0
  have R1 : (w3.alloc (.cells #[.int .i64 x1, .int .i64 x2] 33)).cell? ⟨w3.heap.size, 1, none⟩ = some (.int .i64 x2) := new_cell w3 _ _ 1
  have BX : Below w.heap.size w (w3.alloc (.cells #[.int .i64 x1, .int .i64 x2] 33)) := beyond B_3 (single _ _)
  have nr : ¬ w3.heap.size = w.heap.size := by have h : w.heap.size < w3.heap.size := World.block_lt_of_cell? _ _ s0_3; omega
  clear B_3 s0_3 s1_3 f0_3 f1_3
  generalize (w3.alloc (.cells #[.int .i64 x1, .int .i64 x2] 33)) = WX at *
  generalize w3.heap.size = rb at *
  go_wp2_with fail
  refine (HP.out _ BX).mono ?_
  rintro e w4 ⟨rfl, hb⟩
  have S0_ := kc _ _ hb S0
  have F0_ := kf _ _ hb S0 F0
  have R0_ := kc _ _ hb R0
  have S1_ := kc _ _ hb S1
  have F1_ := kf _ _ hb S1 F1
  have R1_ := kc _ _ hb R1
  have BY := beyond BX hb
  clear hb BX S0 S1 F0 F1 R0 R1
  go_wp2_with fail
  refine bodyPost_ret (v := .tuple #[rv 0 0, .int .i64 7]) (by simp [results, Tryz.results14, go_sem, *]) rfl ⟨rfl, ?_⟩
  first | exact BY | exact set2 BY (Nat.le_refl _) _ _
end Go.Proofs.YteifpplemohdcaaGreatDoor
