/-
  The walk of the statement RatLists.
-/
import Derived.Test.YtnhopmoboahlgaaDoorYc
import Derived.Test.YtnhopmoboahlgaaDoorYe
import Derived.Test.YtnhopmoboahlgaaDoorYf
namespace Go.Proofs.YtnhopmoboahlgaaDoor
open Go.RowKit Go.Shelf
set_option linter.unusedVariables false
set_option maxRecDepth 100000 in
set_option maxHeartbeats 4000000 in
theorem lists_any (ad : Option Addr) (cap : Nat) (L : Rats) (w : World) (ht : Pow w) (hV : RatV w ad L) (hI : RatI L) (hq : L.q * 16 ≤ 140737488355328) :
    Calls Tryd.prog 5 #[.slice ad L.q cap] w fun e w' => e = .returned (.bool true) ∧ Below w.heap.size w w' := by
  have HH := hideR (hand_any ad cap L w hV hq)
  go_enter Tryd.func5, Tryd.ntmps5
  go_wp2_with fail
  refine HH.out.mono ?_
  rintro e w1 ⟨rfl, hv, hs, hb0⟩
  have hv2 : RatV w1 ad L := hV.later hb0
  have H0 : Hid (∀ w', Below w1.heap.size w1 w' → Calls Tryd.prog 25 #[.slice (some ⟨w.heap.size, 0, none⟩) L.q (L.q + 9)] w' fun e w'' => e = .returned (trip (sumT L)) ∧ Below w'.heap.size w' w'') := hideR fun w' hb => rlist_any _ _ L w' (roomy_of (hv.later hb)) hI (by omega) (by omega) (by omega)
  have H1 : Hid (∀ w', Below w1.heap.size w1 w' → Calls Tryd.prog 26 #[.slice ad L.q cap] w' fun e w'' => e = .returned (trip (sumT L)) ∧ Below w'.heap.size w' w'') := hideR fun w' hb => ylist_any _ _ L w' (hv2.later hb) hI (by omega)
  have H2 : Hid (∀ w', Below w1.heap.size w1 w' → Calls Tryd.prog 27 #[.slice (some ⟨w.heap.size, 0, none⟩) L.q (L.q + 9)] w' fun e w'' => e = .returned (tripB (bestT L (-1))) ∧ Below w'.heap.size w' w'') := hideR fun w' hb => rleast_any _ _ L w' (roomy_of (hv.later hb)) hI (by omega)
  have H3 : Hid (∀ w', Below w1.heap.size w1 w' → Calls Tryd.prog 28 #[.slice ad L.q cap] w' fun e w'' => e = .returned (tripB (bestT L (-1))) ∧ Below w'.heap.size w' w'') := hideR fun w' hb => yleast_any _ _ L w' (hv2.later hb) hI (by omega)
  have H4 : Hid (∀ w', Below w1.heap.size w1 w' → Calls Tryd.prog 29 #[.slice (some ⟨w.heap.size, 0, none⟩) L.q (L.q + 9)] w' fun e w'' => e = .returned (tripB (bestT L 1)) ∧ Below w'.heap.size w' w'') := hideR fun w' hb => rgreatest_any _ _ L w' (roomy_of (hv.later hb)) hI (by omega)
  have H5 : Hid (∀ w', Below w1.heap.size w1 w' → Calls Tryd.prog 30 #[.slice ad L.q cap] w' fun e w'' => e = .returned (tripB (bestT L 1)) ∧ Below w'.heap.size w' w'') := hideR fun w' hb => ygreatest_any _ _ L w' (hv2.later hb) hI (by omega)
  have HK : Hid (∀ w', Below w1.heap.size w1 w' → Calls Tryd.prog 31 #[.slice (some ⟨w.heap.size, 0, none⟩) L.q (L.q + 9), .slice ad L.q cap] w' fun e w'' => e = .returned (.bool true) ∧ Below w'.heap.size w' w'') := hideR fun w' hb => kept_rats _ _ _ L w' (hv.later hb) (hv2.later hb) hq
  clear hv hv2 hV hI HH
  have HB0 := hideR hb0
  generalize sumT L = t at *
  generalize bestT L (-1) = u at *
  generalize bestT L 1 = v at *
  generalize L.q = m at *
  generalize m + 9 = N at *
  obtain ⟨p0, p1, p2⟩ := t
  obtain ⟨u0, u1, u2⟩ := u
  obtain ⟨v0, v1, v2⟩ := v
  clear hq hs
  have hB : Below w1.heap.size w1 w1 := Below.refl _ _
  clear hb0
  go_wp2_with fail
  refine (H0.out _ hB).mono ?_
  rintro e z0 ⟨rfl, hb⟩
  have hB_ := beyond hB hb
  clear hb hB H0 
  go_upto_region 3 with (fail)
  have n0x : (z0.alloc (.cells #[.int .i64 p0, .int .i64 p1] 23)).cell? ⟨z0.heap.size, 0, none⟩ = some (.int .i64 p0) := new_cell z0 _ _ 0
  have n0y : (z0.alloc (.cells #[.int .i64 p0, .int .i64 p1] 23)).cell? ⟨z0.heap.size, 1, none⟩ = some (.int .i64 p1) := new_cell z0 _ _ 1
  have hB : Below w1.heap.size w1 (z0.alloc (.cells #[.int .i64 p0, .int .i64 p1] 23)) := beyond hB_ (single _ _)
  clear hB_ 
  generalize (z0.alloc (.cells #[.int .i64 p0, .int .i64 p1] 23)) = Z0 at *
  generalize z0.heap.size = b0 at *
  go_wp2_with fail
  refine (H1.out _ hB).mono ?_
  rintro e z1 ⟨rfl, hb⟩
  have n0x_ := kc _ _ hb n0x
  have n0y_ := kc _ _ hb n0y
  have hB_ := beyond hB hb
  clear hb hB H1 n0x n0y
  go_upto_region 4 with (fail)
  have n0x : (z1.alloc (.cells #[.int .i64 p0, .int .i64 p1] 23)).cell? ⟨b0, 0, none⟩ = some (.int .i64 p0) := kc _ _ (single _ _) n0x_
  have n0y : (z1.alloc (.cells #[.int .i64 p0, .int .i64 p1] 23)).cell? ⟨b0, 1, none⟩ = some (.int .i64 p1) := kc _ _ (single _ _) n0y_
  have n1x : (z1.alloc (.cells #[.int .i64 p0, .int .i64 p1] 23)).cell? ⟨z1.heap.size, 0, none⟩ = some (.int .i64 p0) := new_cell z1 _ _ 0
  have n1y : (z1.alloc (.cells #[.int .i64 p0, .int .i64 p1] 23)).cell? ⟨z1.heap.size, 1, none⟩ = some (.int .i64 p1) := new_cell z1 _ _ 1
  have hB : Below w1.heap.size w1 (z1.alloc (.cells #[.int .i64 p0, .int .i64 p1] 23)) := beyond hB_ (single _ _)
  clear hB_ n0x_ n0y_
  generalize (z1.alloc (.cells #[.int .i64 p0, .int .i64 p1] 23)) = Z1 at *
  generalize z1.heap.size = b1 at *
  go_wp2_with fail
  refine (H2.out _ hB).mono ?_
  rintro e z2 ⟨rfl, hb⟩
  have n0x_ := kc _ _ hb n0x
  have n0y_ := kc _ _ hb n0y
  have n1x_ := kc _ _ hb n1x
  have n1y_ := kc _ _ hb n1y
  have hB_ := beyond hB hb
  clear hb hB H2 n0x n0y n1x n1y
  go_upto_region 5 with (fail)
  have n0x : (z2.alloc (.cells #[.int .i64 u0, .int .i64 u1] 23)).cell? ⟨b0, 0, none⟩ = some (.int .i64 p0) := kc _ _ (single _ _) n0x_
  have n0y : (z2.alloc (.cells #[.int .i64 u0, .int .i64 u1] 23)).cell? ⟨b0, 1, none⟩ = some (.int .i64 p1) := kc _ _ (single _ _) n0y_
  have n1x : (z2.alloc (.cells #[.int .i64 u0, .int .i64 u1] 23)).cell? ⟨b1, 0, none⟩ = some (.int .i64 p0) := kc _ _ (single _ _) n1x_
  have n1y : (z2.alloc (.cells #[.int .i64 u0, .int .i64 u1] 23)).cell? ⟨b1, 1, none⟩ = some (.int .i64 p1) := kc _ _ (single _ _) n1y_
  have n2x : (z2.alloc (.cells #[.int .i64 u0, .int .i64 u1] 23)).cell? ⟨z2.heap.size, 0, none⟩ = some (.int .i64 u0) := new_cell z2 _ _ 0
  have n2y : (z2.alloc (.cells #[.int .i64 u0, .int .i64 u1] 23)).cell? ⟨z2.heap.size, 1, none⟩ = some (.int .i64 u1) := new_cell z2 _ _ 1
  have hB : Below w1.heap.size w1 (z2.alloc (.cells #[.int .i64 u0, .int .i64 u1] 23)) := beyond hB_ (single _ _)
  clear hB_ n0x_ n0y_ n1x_ n1y_
  generalize (z2.alloc (.cells #[.int .i64 u0, .int .i64 u1] 23)) = Z2 at *
  generalize z2.heap.size = b2 at *
  go_wp2_with fail
  refine (H3.out _ hB).mono ?_
  rintro e z3 ⟨rfl, hb⟩
  have n0x_ := kc _ _ hb n0x
  have n0y_ := kc _ _ hb n0y
  have n1x_ := kc _ _ hb n1x
  have n1y_ := kc _ _ hb n1y
  have n2x_ := kc _ _ hb n2x
  have n2y_ := kc _ _ hb n2y
  have hB_ := beyond hB hb
  clear hb hB H3 n0x n0y n1x n1y n2x n2y
  go_upto_region 6 with (fail)
  have n0x : (z3.alloc (.cells #[.int .i64 u0, .int .i64 u1] 23)).cell? ⟨b0, 0, none⟩ = some (.int .i64 p0) := kc _ _ (single _ _) n0x_
  have n0y : (z3.alloc (.cells #[.int .i64 u0, .int .i64 u1] 23)).cell? ⟨b0, 1, none⟩ = some (.int .i64 p1) := kc _ _ (single _ _) n0y_
  have n1x : (z3.alloc (.cells #[.int .i64 u0, .int .i64 u1] 23)).cell? ⟨b1, 0, none⟩ = some (.int .i64 p0) := kc _ _ (single _ _) n1x_
  have n1y : (z3.alloc (.cells #[.int .i64 u0, .int .i64 u1] 23)).cell? ⟨b1, 1, none⟩ = some (.int .i64 p1) := kc _ _ (single _ _) n1y_
  have n2x : (z3.alloc (.cells #[.int .i64 u0, .int .i64 u1] 23)).cell? ⟨b2, 0, none⟩ = some (.int .i64 u0) := kc _ _ (single _ _) n2x_
  have n2y : (z3.alloc (.cells #[.int .i64 u0, .int .i64 u1] 23)).cell? ⟨b2, 1, none⟩ = some (.int .i64 u1) := kc _ _ (single _ _) n2y_
  have n3x : (z3.alloc (.cells #[.int .i64 u0, .int .i64 u1] 23)).cell? ⟨z3.heap.size, 0, none⟩ = some (.int .i64 u0) := new_cell z3 _ _ 0
  have n3y : (z3.alloc (.cells #[.int .i64 u0, .int .i64 u1] 23)).cell? ⟨z3.heap.size, 1, none⟩ = some (.int .i64 u1) := new_cell z3 _ _ 1
  have hB : Below w1.heap.size w1 (z3.alloc (.cells #[.int .i64 u0, .int .i64 u1] 23)) := beyond hB_ (single _ _)
  clear hB_ n0x_ n0y_ n1x_ n1y_ n2x_ n2y_
  generalize (z3.alloc (.cells #[.int .i64 u0, .int .i64 u1] 23)) = Z3 at *
  generalize z3.heap.size = b3 at *
  go_wp2_with fail
  refine (H4.out _ hB).mono ?_
  rintro e z4 ⟨rfl, hb⟩
  have n0x_ := kc _ _ hb n0x
  have n0y_ := kc _ _ hb n0y
  have n1x_ := kc _ _ hb n1x
  have n1y_ := kc _ _ hb n1y
  have n2x_ := kc _ _ hb n2x
  have n2y_ := kc _ _ hb n2y
  have n3x_ := kc _ _ hb n3x
  have n3y_ := kc _ _ hb n3y
  have hB_ := beyond hB hb
  clear hb hB H4 n0x n0y n1x n1y n2x n2y n3x n3y
  go_upto_region 7 with (fail)
  have n0x : (z4.alloc (.cells #[.int .i64 v0, .int .i64 v1] 23)).cell? ⟨b0, 0, none⟩ = some (.int .i64 p0) := kc _ _ (single _ _) n0x_
  have n0y : (z4.alloc (.cells #[.int .i64 v0, .int .i64 v1] 23)).cell? ⟨b0, 1, none⟩ = some (.int .i64 p1) := kc _ _ (single _ _) n0y_
  have n1x : (z4.alloc (.cells #[.int .i64 v0, .int .i64 v1] 23)).cell? ⟨b1, 0, none⟩ = some (.int .i64 p0) := kc _ _ (single _ _) n1x_
  have n1y : (z4.alloc (.cells #[.int .i64 v0, .int .i64 v1] 23)).cell? ⟨b1, 1, none⟩ = some (.int .i64 p1) := kc _ _ (single _ _) n1y_
  have n2x : (z4.alloc (.cells #[.int .i64 v0, .int .i64 v1] 23)).cell? ⟨b2, 0, none⟩ = some (.int .i64 u0) := kc _ _ (single _ _) n2x_
  have n2y : (z4.alloc (.cells #[.int .i64 v0, .int .i64 v1] 23)).cell? ⟨b2, 1, none⟩ = some (.int .i64 u1) := kc _ _ (single _ _) n2y_
  have n3x : (z4.alloc (.cells #[.int .i64 v0, .int .i64 v1] 23)).cell? ⟨b3, 0, none⟩ = some (.int .i64 u0) := kc _ _ (single _ _) n3x_
  have n3y : (z4.alloc (.cells #[.int .i64 v0, .int .i64 v1] 23)).cell? ⟨b3, 1, none⟩ = some (.int .i64 u1) := kc _ _ (single _ _) n3y_
  have n4x : (z4.alloc (.cells #[.int .i64 v0, .int .i64 v1] 23)).cell? ⟨z4.heap.size, 0, none⟩ = some (.int .i64 v0) := new_cell z4 _ _ 0
  have n4y : (z4.alloc (.cells #[.int .i64 v0, .int .i64 v1] 23)).cell? ⟨z4.heap.size, 1, none⟩ = some (.int .i64 v1) := new_cell z4 _ _ 1
  have hB : Below w1.heap.size w1 (z4.alloc (.cells #[.int .i64 v0, .int .i64 v1] 23)) := beyond hB_ (single _ _)
  clear hB_ n0x_ n0y_ n1x_ n1y_ n2x_ n2y_ n3x_ n3y_
  generalize (z4.alloc (.cells #[.int .i64 v0, .int .i64 v1] 23)) = Z4 at *
  generalize z4.heap.size = b4 at *
  go_wp2_with fail
  refine (H5.out _ hB).mono ?_
  rintro e z5 ⟨rfl, hb⟩
  have n0x_ := kc _ _ hb n0x
  have n0y_ := kc _ _ hb n0y
  have n1x_ := kc _ _ hb n1x
  have n1y_ := kc _ _ hb n1y
  have n2x_ := kc _ _ hb n2x
  have n2y_ := kc _ _ hb n2y
  have n3x_ := kc _ _ hb n3x
  have n3y_ := kc _ _ hb n3y
  have n4x_ := kc _ _ hb n4x
  have n4y_ := kc _ _ hb n4y
  have hB_ := beyond hB hb
  clear hb hB H5 n0x n0y n1x n1y n2x n2y n3x n3y n4x n4y
  go_upto_region 8 with (fail)
  have n0x : (z5.alloc (.cells #[.int .i64 v0, .int .i64 v1] 23)).cell? ⟨b0, 0, none⟩ = some (.int .i64 p0) := kc _ _ (single _ _) n0x_
  have n0y : (z5.alloc (.cells #[.int .i64 v0, .int .i64 v1] 23)).cell? ⟨b0, 1, none⟩ = some (.int .i64 p1) := kc _ _ (single _ _) n0y_
  have n1x : (z5.alloc (.cells #[.int .i64 v0, .int .i64 v1] 23)).cell? ⟨b1, 0, none⟩ = some (.int .i64 p0) := kc _ _ (single _ _) n1x_
  have n1y : (z5.alloc (.cells #[.int .i64 v0, .int .i64 v1] 23)).cell? ⟨b1, 1, none⟩ = some (.int .i64 p1) := kc _ _ (single _ _) n1y_
  have n2x : (z5.alloc (.cells #[.int .i64 v0, .int .i64 v1] 23)).cell? ⟨b2, 0, none⟩ = some (.int .i64 u0) := kc _ _ (single _ _) n2x_
  have n2y : (z5.alloc (.cells #[.int .i64 v0, .int .i64 v1] 23)).cell? ⟨b2, 1, none⟩ = some (.int .i64 u1) := kc _ _ (single _ _) n2y_
  have n3x : (z5.alloc (.cells #[.int .i64 v0, .int .i64 v1] 23)).cell? ⟨b3, 0, none⟩ = some (.int .i64 u0) := kc _ _ (single _ _) n3x_
  have n3y : (z5.alloc (.cells #[.int .i64 v0, .int .i64 v1] 23)).cell? ⟨b3, 1, none⟩ = some (.int .i64 u1) := kc _ _ (single _ _) n3y_
  have n4x : (z5.alloc (.cells #[.int .i64 v0, .int .i64 v1] 23)).cell? ⟨b4, 0, none⟩ = some (.int .i64 v0) := kc _ _ (single _ _) n4x_
  have n4y : (z5.alloc (.cells #[.int .i64 v0, .int .i64 v1] 23)).cell? ⟨b4, 1, none⟩ = some (.int .i64 v1) := kc _ _ (single _ _) n4y_
  have n5x : (z5.alloc (.cells #[.int .i64 v0, .int .i64 v1] 23)).cell? ⟨z5.heap.size, 0, none⟩ = some (.int .i64 v0) := new_cell z5 _ _ 0
  have n5y : (z5.alloc (.cells #[.int .i64 v0, .int .i64 v1] 23)).cell? ⟨z5.heap.size, 1, none⟩ = some (.int .i64 v1) := new_cell z5 _ _ 1
  have hB : Below w1.heap.size w1 (z5.alloc (.cells #[.int .i64 v0, .int .i64 v1] 23)) := beyond hB_ (single _ _)
  clear hB_ n0x_ n0y_ n1x_ n1y_ n2x_ n2y_ n3x_ n3y_ n4x_ n4y_
  generalize (z5.alloc (.cells #[.int .i64 v0, .int .i64 v1] 23)) = Z5 at *
  generalize z5.heap.size = b5 at *
  go_wp2_with fail
  refine (live_any _ (pow_later ht (beyond HB0.out hB))).mono ?_
  rintro e y1 ⟨rfl, hb⟩
  have n0x_ := kc _ _ hb n0x
  have n0y_ := kc _ _ hb n0y
  have n1x_ := kc _ _ hb n1x
  have n1y_ := kc _ _ hb n1y
  have n2x_ := kc _ _ hb n2x
  have n2y_ := kc _ _ hb n2y
  have n3x_ := kc _ _ hb n3x
  have n3y_ := kc _ _ hb n3y
  have n4x_ := kc _ _ hb n4x
  have n4y_ := kc _ _ hb n4y
  have n5x_ := kc _ _ hb n5x
  have n5y_ := kc _ _ hb n5y
  have hB_ := beyond hB hb
  clear hb hB n0x n0y n1x n1y n2x n2y n3x n3y n4x n4y n5x n5y
  go_wp2_with fail
  refine (HK.out _ hB_).mono ?_
  rintro e y2 ⟨rfl, hb⟩
  have hB := beyond hB_ hb
  clear hb
  go_wp2_with fail
  go_ret
  exact ⟨rfl, beyond HB0.out hB⟩
end Go.Proofs.YtnhopmoboahlgaaDoor
