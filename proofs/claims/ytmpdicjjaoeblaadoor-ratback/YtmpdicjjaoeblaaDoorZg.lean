/-
  The walk of the statement RatBack.
-/
import Derived.Test.YtmpdicjjaoeblaaDoorZf
import Derived.Test.YtmpdicjjaoeblaaDoorOp
namespace Go.Proofs.YtmpdicjjaoeblaaDoor
open Go.RowKit Go.Shelf
set_option linter.unusedVariables false
set_option maxRecDepth 100000 in
set_option maxHeartbeats 4000000 in
theorem back_true_ok (n d x y : Int) (s p q : ByteArray) (w : World) (ht : Pow w) (HR : Hid (AskR n d true)) (HP : Hid (∀ w', Below w.heap.size w w' → Calls Tryd.prog 7 #[rv n d] w' fun e w'' => e = .returned (.string p) ∧ Below w'.heap.size w' w'')) (HQ : Hid (∀ w', Below w.heap.size w w' → Calls Tryd.prog 6 #[.string p] w' fun e w'' => e = .returned (trip (n, d, 0)) ∧ Below w'.heap.size w' w'')) (HS : Hid (∀ w', Below w.heap.size w w' → Calls Tryd.prog 6 #[.string s] w' fun e w'' => e = .returned (trip (x, y, 0)) ∧ Below w'.heap.size w' w'')) (HT : Hid (∀ w', Below w.heap.size w w' → Calls Tryd.prog 7 #[rv x y] w' fun e w'' => e = .returned (.string q) ∧ Below w'.heap.size w' w'')) (hq : (q.toList == s.toList) = true) :
    Calls Tryd.prog 3 #[rv n d, .string s] w fun e w' => e = .returned (.bool true) ∧ Below w.heap.size w w' := by
  have B0 := single w (.cells #[.int .i64 n, .int .i64 d] 23)
  go_enter Tryd.func3, Tryd.ntmps3
  go_wp2_with fail
  refine (HR.out _).mono ?_
  rintro e w1 ⟨rfl, hb⟩
  have r0 := kc ⟨w.heap.size, 0, none⟩ (.int .i64 n) hb (by simp [go_sem])
  have r1 := kc ⟨w.heap.size, 1, none⟩ (.int .i64 d) hb (by simp [go_sem])
  have B1 := beyond B0 hb
  clear hb B0
  go_wp2_with fail
  refine (HP.out _ B1).mono ?_
  rintro e w2 ⟨rfl, hb⟩
  have r0_ := kc _ _ hb r0
  have r1_ := kc _ _ hb r1
  have B2 := beyond B1 hb
  clear hb B1 r0 r1
  go_wp2_with fail
  refine (HQ.out _ B2).mono ?_
  rintro e w3 ⟨rfl, hb⟩
  have r0__ := kc _ _ hb r0_
  have r1__ := kc _ _ hb r1_
  have B3 := beyond B2 hb
  clear hb B2 r0_ r1_
  go_upto_region 3 with (fail)
  have r0__n : (w3.alloc (.cells #[.int .i64 n, .int .i64 d] 23)).cell? ⟨w.heap.size, 0, none⟩ = some (.int .i64 n) := kc _ _ (single _ _) r0__
  have r1__n : (w3.alloc (.cells #[.int .i64 n, .int .i64 d] 23)).cell? ⟨w.heap.size, 1, none⟩ = some (.int .i64 d) := kc _ _ (single _ _) r1__
  have ba0 : (w3.alloc (.cells #[.int .i64 n, .int .i64 d] 23)).cell? ⟨w3.heap.size, 0, none⟩ = some (.int .i64 n) := new_cell w3 _ _ 0
  have ba1 : (w3.alloc (.cells #[.int .i64 n, .int .i64 d] 23)).cell? ⟨w3.heap.size, 1, none⟩ = some (.int .i64 d) := new_cell w3 _ _ 1
  have B3n : Below w.heap.size w (w3.alloc (.cells #[.int .i64 n, .int .i64 d] 23)) := beyond B3 (single _ _)
  clear B3 r0__ r1__
  generalize (w3.alloc (.cells #[.int .i64 n, .int .i64 d] 23)) = Wba at *
  generalize w3.heap.size = ba at *
  go_wp2_with fail
  refine (HS.out _ B3n).mono ?_
  rintro e w4 ⟨rfl, hb⟩
  have r0__n_ := kc _ _ hb r0__n
  have r1__n_ := kc _ _ hb r1__n
  have ba0_ := kc _ _ hb ba0
  have ba1_ := kc _ _ hb ba1
  have B4 := beyond B3n hb
  clear hb B3n r0__n r1__n ba0 ba1
  go_upto_region 6 with (fail)
  have r0__n_n : (w4.alloc (.cells #[.int .i64 x, .int .i64 y] 23)).cell? ⟨w.heap.size, 0, none⟩ = some (.int .i64 n) := kc _ _ (single _ _) r0__n_
  have r1__n_n : (w4.alloc (.cells #[.int .i64 x, .int .i64 y] 23)).cell? ⟨w.heap.size, 1, none⟩ = some (.int .i64 d) := kc _ _ (single _ _) r1__n_
  have ba0_n : (w4.alloc (.cells #[.int .i64 x, .int .i64 y] 23)).cell? ⟨ba, 0, none⟩ = some (.int .i64 n) := kc _ _ (single _ _) ba0_
  have ba1_n : (w4.alloc (.cells #[.int .i64 x, .int .i64 y] 23)).cell? ⟨ba, 1, none⟩ = some (.int .i64 d) := kc _ _ (single _ _) ba1_
  have bb0 : (w4.alloc (.cells #[.int .i64 x, .int .i64 y] 23)).cell? ⟨w4.heap.size, 0, none⟩ = some (.int .i64 x) := new_cell w4 _ _ 0
  have bb1 : (w4.alloc (.cells #[.int .i64 x, .int .i64 y] 23)).cell? ⟨w4.heap.size, 1, none⟩ = some (.int .i64 y) := new_cell w4 _ _ 1
  have B4n : Below w.heap.size w (w4.alloc (.cells #[.int .i64 x, .int .i64 y] 23)) := beyond B4 (single _ _)
  clear B4 r0__n_ r1__n_ ba0_ ba1_
  generalize (w4.alloc (.cells #[.int .i64 x, .int .i64 y] 23)) = Wbb at *
  generalize w4.heap.size = bb at *
  go_wp2_with fail
  refine (live_any _ (pow_later ht B4n)).mono ?_
  rintro e w5 ⟨rfl, hb⟩
  have r0__n_n_ := kc _ _ hb r0__n_n
  have r1__n_n_ := kc _ _ hb r1__n_n
  have ba0_n_ := kc _ _ hb ba0_n
  have ba1_n_ := kc _ _ hb ba1_n
  have bb0_ := kc _ _ hb bb0
  have bb1_ := kc _ _ hb bb1
  have B5 := beyond B4n hb
  clear hb B4n r0__n_n r1__n_n ba0_n ba1_n bb0 bb1
  go_wp2_with fail
  refine (HT.out _ B5).mono ?_
  rintro e w6 ⟨rfl, hb⟩
  have r0__n_n__ := kc _ _ hb r0__n_n_
  have r1__n_n__ := kc _ _ hb r1__n_n_
  have ba0_n__ := kc _ _ hb ba0_n_
  have ba1_n__ := kc _ _ hb ba1_n_
  have bb0__ := kc _ _ hb bb0_
  have bb1__ := kc _ _ hb bb1_
  have B6 := beyond B5 hb
  clear hb B5 r0__n_n_ r1__n_n_ ba0_n_ ba1_n_ bb0_ bb1_
  go_wp2_with fail
  go_ret
  exact ⟨rfl, B6⟩
set_option maxRecDepth 100000 in
set_option maxHeartbeats 4000000 in
theorem back_true_no (n d x y : Int) (s p q : ByteArray) (w : World) (ht : Pow w) (HR : Hid (AskR n d true)) (HP : Hid (∀ w', Below w.heap.size w w' → Calls Tryd.prog 7 #[rv n d] w' fun e w'' => e = .returned (.string p) ∧ Below w'.heap.size w' w'')) (HQ : Hid (∀ w', Below w.heap.size w w' → Calls Tryd.prog 6 #[.string p] w' fun e w'' => e = .returned (trip (n, d, 0)) ∧ Below w'.heap.size w' w'')) (HS : Hid (∀ w', Below w.heap.size w w' → Calls Tryd.prog 6 #[.string s] w' fun e w'' => e = .returned (trip (0, 0, 7)) ∧ Below w'.heap.size w' w'')) :
    Calls Tryd.prog 3 #[rv n d, .string s] w fun e w' => e = .returned (.bool true) ∧ Below w.heap.size w w' := by
  have B0 := single w (.cells #[.int .i64 n, .int .i64 d] 23)
  go_enter Tryd.func3, Tryd.ntmps3
  go_wp2_with fail
  refine (HR.out _).mono ?_
  rintro e w1 ⟨rfl, hb⟩
  have r0 := kc ⟨w.heap.size, 0, none⟩ (.int .i64 n) hb (by simp [go_sem])
  have r1 := kc ⟨w.heap.size, 1, none⟩ (.int .i64 d) hb (by simp [go_sem])
  have B1 := beyond B0 hb
  clear hb B0
  go_wp2_with fail
  refine (HP.out _ B1).mono ?_
  rintro e w2 ⟨rfl, hb⟩
  have r0_ := kc _ _ hb r0
  have r1_ := kc _ _ hb r1
  have B2 := beyond B1 hb
  clear hb B1 r0 r1
  go_wp2_with fail
  refine (HQ.out _ B2).mono ?_
  rintro e w3 ⟨rfl, hb⟩
  have r0__ := kc _ _ hb r0_
  have r1__ := kc _ _ hb r1_
  have B3 := beyond B2 hb
  clear hb B2 r0_ r1_
  go_upto_region 3 with (fail)
  have r0__n : (w3.alloc (.cells #[.int .i64 n, .int .i64 d] 23)).cell? ⟨w.heap.size, 0, none⟩ = some (.int .i64 n) := kc _ _ (single _ _) r0__
  have r1__n : (w3.alloc (.cells #[.int .i64 n, .int .i64 d] 23)).cell? ⟨w.heap.size, 1, none⟩ = some (.int .i64 d) := kc _ _ (single _ _) r1__
  have ba0 : (w3.alloc (.cells #[.int .i64 n, .int .i64 d] 23)).cell? ⟨w3.heap.size, 0, none⟩ = some (.int .i64 n) := new_cell w3 _ _ 0
  have ba1 : (w3.alloc (.cells #[.int .i64 n, .int .i64 d] 23)).cell? ⟨w3.heap.size, 1, none⟩ = some (.int .i64 d) := new_cell w3 _ _ 1
  have B3n : Below w.heap.size w (w3.alloc (.cells #[.int .i64 n, .int .i64 d] 23)) := beyond B3 (single _ _)
  clear B3 r0__ r1__
  generalize (w3.alloc (.cells #[.int .i64 n, .int .i64 d] 23)) = Wba at *
  generalize w3.heap.size = ba at *
  go_wp2_with fail
  refine (HS.out _ B3n).mono ?_
  rintro e w4 ⟨rfl, hb⟩
  have r0__n_ := kc _ _ hb r0__n
  have r1__n_ := kc _ _ hb r1__n
  have ba0_ := kc _ _ hb ba0
  have ba1_ := kc _ _ hb ba1
  have B4 := beyond B3n hb
  clear hb B3n r0__n r1__n ba0 ba1
  go_upto_region 6 with (fail)
  have r0__n_n : (w4.alloc (.cells #[.int .i64 0, .int .i64 0] 23)).cell? ⟨w.heap.size, 0, none⟩ = some (.int .i64 n) := kc _ _ (single _ _) r0__n_
  have r1__n_n : (w4.alloc (.cells #[.int .i64 0, .int .i64 0] 23)).cell? ⟨w.heap.size, 1, none⟩ = some (.int .i64 d) := kc _ _ (single _ _) r1__n_
  have ba0_n : (w4.alloc (.cells #[.int .i64 0, .int .i64 0] 23)).cell? ⟨ba, 0, none⟩ = some (.int .i64 n) := kc _ _ (single _ _) ba0_
  have ba1_n : (w4.alloc (.cells #[.int .i64 0, .int .i64 0] 23)).cell? ⟨ba, 1, none⟩ = some (.int .i64 d) := kc _ _ (single _ _) ba1_
  have bb0 : (w4.alloc (.cells #[.int .i64 0, .int .i64 0] 23)).cell? ⟨w4.heap.size, 0, none⟩ = some (.int .i64 0) := new_cell w4 _ _ 0
  have bb1 : (w4.alloc (.cells #[.int .i64 0, .int .i64 0] 23)).cell? ⟨w4.heap.size, 1, none⟩ = some (.int .i64 0) := new_cell w4 _ _ 1
  have B4n : Below w.heap.size w (w4.alloc (.cells #[.int .i64 0, .int .i64 0] 23)) := beyond B4 (single _ _)
  clear B4 r0__n_ r1__n_ ba0_ ba1_
  generalize (w4.alloc (.cells #[.int .i64 0, .int .i64 0] 23)) = Wbb at *
  generalize w4.heap.size = bb at *
  go_wp2_with fail
  refine (live_any _ (pow_later ht B4n)).mono ?_
  rintro e w5 ⟨rfl, hb⟩
  have r0__n_n_ := kc _ _ hb r0__n_n
  have r1__n_n_ := kc _ _ hb r1__n_n
  have ba0_n_ := kc _ _ hb ba0_n
  have ba1_n_ := kc _ _ hb ba1_n
  have bb0_ := kc _ _ hb bb0
  have bb1_ := kc _ _ hb bb1
  have B5 := beyond B4n hb
  clear hb B4n r0__n_n r1__n_n ba0_n ba1_n bb0 bb1
  go_wp2_with fail
  go_ret
  exact ⟨rfl, B5⟩
set_option maxRecDepth 100000 in
set_option maxHeartbeats 4000000 in
theorem back_false_ok (n d x y : Int) (s p q : ByteArray) (w : World) (ht : Pow w) (HR : Hid (AskR n d false)) (HS : Hid (∀ w', Below w.heap.size w w' → Calls Tryd.prog 6 #[.string s] w' fun e w'' => e = .returned (trip (x, y, 0)) ∧ Below w'.heap.size w' w'')) (HT : Hid (∀ w', Below w.heap.size w w' → Calls Tryd.prog 7 #[rv x y] w' fun e w'' => e = .returned (.string q) ∧ Below w'.heap.size w' w'')) (hq : (q.toList == s.toList) = true) :
    Calls Tryd.prog 3 #[rv n d, .string s] w fun e w' => e = .returned (.bool true) ∧ Below w.heap.size w w' := by
  have B0 := single w (.cells #[.int .i64 n, .int .i64 d] 23)
  go_enter Tryd.func3, Tryd.ntmps3
  go_wp2_with fail
  refine (HR.out _).mono ?_
  rintro e w1 ⟨rfl, hb⟩
  have r0 := kc ⟨w.heap.size, 0, none⟩ (.int .i64 n) hb (by simp [go_sem])
  have r1 := kc ⟨w.heap.size, 1, none⟩ (.int .i64 d) hb (by simp [go_sem])
  have B1 := beyond B0 hb
  clear hb B0
  go_wp2_with fail
  refine (HS.out _ B1).mono ?_
  rintro e w2 ⟨rfl, hb⟩
  have r0_ := kc _ _ hb r0
  have r1_ := kc _ _ hb r1
  have B2 := beyond B1 hb
  clear hb B1 r0 r1
  go_upto_region 6 with (fail)
  have r0_n : (w2.alloc (.cells #[.int .i64 x, .int .i64 y] 23)).cell? ⟨w.heap.size, 0, none⟩ = some (.int .i64 n) := kc _ _ (single _ _) r0_
  have r1_n : (w2.alloc (.cells #[.int .i64 x, .int .i64 y] 23)).cell? ⟨w.heap.size, 1, none⟩ = some (.int .i64 d) := kc _ _ (single _ _) r1_
  have bb0 : (w2.alloc (.cells #[.int .i64 x, .int .i64 y] 23)).cell? ⟨w2.heap.size, 0, none⟩ = some (.int .i64 x) := new_cell w2 _ _ 0
  have bb1 : (w2.alloc (.cells #[.int .i64 x, .int .i64 y] 23)).cell? ⟨w2.heap.size, 1, none⟩ = some (.int .i64 y) := new_cell w2 _ _ 1
  have B2n : Below w.heap.size w (w2.alloc (.cells #[.int .i64 x, .int .i64 y] 23)) := beyond B2 (single _ _)
  clear B2 r0_ r1_
  generalize (w2.alloc (.cells #[.int .i64 x, .int .i64 y] 23)) = Wbb at *
  generalize w2.heap.size = bb at *
  go_wp2_with fail
  refine (live_any _ (pow_later ht B2n)).mono ?_
  rintro e w3 ⟨rfl, hb⟩
  have r0_n_ := kc _ _ hb r0_n
  have r1_n_ := kc _ _ hb r1_n
  have bb0_ := kc _ _ hb bb0
  have bb1_ := kc _ _ hb bb1
  have B3 := beyond B2n hb
  clear hb B2n r0_n r1_n bb0 bb1
  go_wp2_with fail
  refine (HT.out _ B3).mono ?_
  rintro e w4 ⟨rfl, hb⟩
  have r0_n__ := kc _ _ hb r0_n_
  have r1_n__ := kc _ _ hb r1_n_
  have bb0__ := kc _ _ hb bb0_
  have bb1__ := kc _ _ hb bb1_
  have B4 := beyond B3 hb
  clear hb B3 r0_n_ r1_n_ bb0_ bb1_
  go_wp2_with fail
  go_ret
  exact ⟨rfl, B4⟩
set_option maxRecDepth 100000 in
set_option maxHeartbeats 4000000 in
theorem back_false_no (n d x y : Int) (s p q : ByteArray) (w : World) (ht : Pow w) (HR : Hid (AskR n d false)) (HS : Hid (∀ w', Below w.heap.size w w' → Calls Tryd.prog 6 #[.string s] w' fun e w'' => e = .returned (trip (0, 0, 7)) ∧ Below w'.heap.size w' w'')) :
    Calls Tryd.prog 3 #[rv n d, .string s] w fun e w' => e = .returned (.bool true) ∧ Below w.heap.size w w' := by
  have B0 := single w (.cells #[.int .i64 n, .int .i64 d] 23)
  go_enter Tryd.func3, Tryd.ntmps3
  go_wp2_with fail
  refine (HR.out _).mono ?_
  rintro e w1 ⟨rfl, hb⟩
  have r0 := kc ⟨w.heap.size, 0, none⟩ (.int .i64 n) hb (by simp [go_sem])
  have r1 := kc ⟨w.heap.size, 1, none⟩ (.int .i64 d) hb (by simp [go_sem])
  have B1 := beyond B0 hb
  clear hb B0
  go_wp2_with fail
  refine (HS.out _ B1).mono ?_
  rintro e w2 ⟨rfl, hb⟩
  have r0_ := kc _ _ hb r0
  have r1_ := kc _ _ hb r1
  have B2 := beyond B1 hb
  clear hb B1 r0 r1
  go_upto_region 6 with (fail)
  have r0_n : (w2.alloc (.cells #[.int .i64 0, .int .i64 0] 23)).cell? ⟨w.heap.size, 0, none⟩ = some (.int .i64 n) := kc _ _ (single _ _) r0_
  have r1_n : (w2.alloc (.cells #[.int .i64 0, .int .i64 0] 23)).cell? ⟨w.heap.size, 1, none⟩ = some (.int .i64 d) := kc _ _ (single _ _) r1_
  have bb0 : (w2.alloc (.cells #[.int .i64 0, .int .i64 0] 23)).cell? ⟨w2.heap.size, 0, none⟩ = some (.int .i64 0) := new_cell w2 _ _ 0
  have bb1 : (w2.alloc (.cells #[.int .i64 0, .int .i64 0] 23)).cell? ⟨w2.heap.size, 1, none⟩ = some (.int .i64 0) := new_cell w2 _ _ 1
  have B2n : Below w.heap.size w (w2.alloc (.cells #[.int .i64 0, .int .i64 0] 23)) := beyond B2 (single _ _)
  clear B2 r0_ r1_
  generalize (w2.alloc (.cells #[.int .i64 0, .int .i64 0] 23)) = Wbb at *
  generalize w2.heap.size = bb at *
  go_wp2_with fail
  refine (live_any _ (pow_later ht B2n)).mono ?_
  rintro e w3 ⟨rfl, hb⟩
  have r0_n_ := kc _ _ hb r0_n
  have r1_n_ := kc _ _ hb r1_n
  have bb0_ := kc _ _ hb bb0
  have bb1_ := kc _ _ hb bb1
  have B3 := beyond B2n hb
  clear hb B2n r0_n r1_n bb0 bb1
  go_wp2_with fail
  go_ret
  exact ⟨rfl, B3⟩
theorem print_len (n d : Int) (hn : I64 n) (hd : I64 d) : (printR n d).length ≤ 43 := by
  have a := Lib.itoa_length_le n hn.1 hn.2
  have b := Lib.itoa_length_le d hd.1 hd.2
  unfold printR
  split
  · split
    · omega
    · simp
      omega
  · simp
theorem parse_i64 (l : List UInt8) : I64 (parseT l).1 ∧ I64 (parseT l).2.1 := by
  unfold parseT
  split
  · refine ⟨read_i64 _, ?_⟩
    show I64 (denOf l)
    unfold denOf
    split
    · exact read_i64 _
    · exact ⟨by decide, by decide⟩
  · exact ⟨⟨by decide, by decide⟩, by decide, by decide⟩
theorem ratBack.walk (n : Int) (hn : (Lit.int .i64 n).wf = true) (d : Int) (hd : (Lit.int .i64 d).wf = true) (s : ByteArray) (hs : s.size ≤ maxLen) (w : World) (ht : Pow w) (he : Errs w) (hlim : s.size ≤ 140737488355328) :
    Calls Tryd.prog 3 #[rv n d, .string s] w fun e w' => e = .returned (.bool true) ∧ Below w.heap.size w w' := by
  have h1 := i64_wf hn
  have h2 := i64_wf hd
  have k := askR n d h1 h2
  have HS : Hid (∀ w', Below w.heap.size w w' → Calls Tryd.prog 6 #[.string s] w' fun e w'' => e = .returned (trip (parseT s.data.toList)) ∧ Below w'.heap.size w' w'') := hideR fun w' hb => rparse_any s w' hlim (pow_later ht hb) (errs_later he hb)
  have HP : Hid (∀ w', Below w.heap.size w w' → Calls Tryd.prog 7 #[rv n d] w' fun e w'' => e = .returned (.string ⟨(printR n d).toArray⟩) ∧ Below w'.heap.size w' w'') := hideR fun w' hb => rprintT n d w' h1 h2 (pow_later ht hb)
  have HQ : rightR n d = true → Hid (∀ w', Below w.heap.size w w' → Calls Tryd.prog 6 #[.string ⟨(printR n d).toArray⟩] w' fun e w'' => e = .returned (trip (n, d, 0)) ∧ Below w'.heap.size w' w'') := fun r => hideR fun w' hb => by
    have c := rparse_any ⟨(printR n d).toArray⟩ w' (by show (printR n d).toArray.size ≤ _; have := print_len n d h1 h2; simp; omega) (pow_later ht hb) (errs_later he hb)
    have e : parseT (⟨(printR n d).toArray⟩ : ByteArray).data.toList = (n, d, 0) := parse_back n d h1 h2 r
    rw [e] at c
    exact c
  obtain ⟨i1, i2⟩ := parse_i64 s.data.toList
  have HT : Hid (∀ w', Below w.heap.size w w' → Calls Tryd.prog 7 #[rv (parseT s.data.toList).1 (parseT s.data.toList).2.1] w' fun e w'' => e = .returned (.string ⟨(printR (parseT s.data.toList).1 (parseT s.data.toList).2.1).toArray⟩) ∧ Below w'.heap.size w' w'') := hideR fun w' hb => rprintT _ _ w' i1 i2 (pow_later ht hb)
  have Q := parse_says s.data.toList
  generalize parseT s.data.toList = t at *
  obtain ⟨x, y, e⟩ := t
  cases r : rightR n d
  · rw [r] at k
    rcases Q with ⟨q1, q2⟩ | q
    · dsimp only at q1
      subst q1
      exact back_false_ok n d x y s ⟨#[]⟩ _ w ht k HS HT (by rw [eq_bytes, decide_eq_true q2])
    · injection q with a b
      injection b with b c
      subst a
      subst b
      subst c
      exact back_false_no n d 0 0 s ⟨#[]⟩ ⟨#[]⟩ w ht k HS
  · rw [r] at k
    rcases Q with ⟨q1, q2⟩ | q
    · dsimp only at q1
      subst q1
      exact back_true_ok n d x y s _ _ w ht k HP (HQ r) HS HT (by rw [eq_bytes, decide_eq_true q2])
    · injection q with a b
      injection b with b c
      subst a
      subst b
      subst c
      exact back_true_no n d 0 0 s _ ⟨#[]⟩ w ht k HP (HQ r) HS
end Go.Proofs.YtmpdicjjaoeblaaDoor
