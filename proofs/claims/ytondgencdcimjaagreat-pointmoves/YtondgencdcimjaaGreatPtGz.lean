/-
  live of the statements of point.
-/
import Derived.Test.YtondgencdcimjaaGreatPtAz
import Derived.Test.YtondgencdcimjaaGreatPtDz
import Derived.Test.YtondgencdcimjaaGreatGaz
namespace Go.Proofs.YtondgencdcimjaaGreat
open Go.RowKit Go.Shelf
set_option linter.unusedVariables false
set_option maxRecDepth 100000
theorem narB_rightP (x : Int) : rightB (narB x) = true := by
  unfold narB rightB
  split
  · simp
  · split
    · simp
    · simp; omega
theorem zoneR_right {n : Nat} {r : Mat} {c : Row} (h : zoneR n r = some c) (j : Nat) : rightB (c j) = true := by
  unfold zoneR at h
  split at h
  · cases h
    rfl
  · split at h
    · cases h
      unfold cellsUpto
      split
      · exact narB_rightP _
      · rfl
    · cases h
theorem zoneR_zero {n : Nat} {r : Mat} {c : Row} (h : zoneR n r = some c) (j : Nat) (hj : (n + 1) * (n + 1) ≤ j) : c j = 0 := by
  unfold zoneR at h
  split at h
  · cases h
    rfl
  · split at h
    · cases h
      unfold cellsUpto
      rw [if_neg (by omega)]
    · cases h
def LVp : Lims := ⟨2, fun k => if k = 0 then 1 else 0, fun k => if k = 0 then 0 else 1, fun k => if k = 0 then 16 else -14⟩
def cX : Row := fun k => [1, -14, 16, 1].getD k 0
theorem lvp_zone : (zoneR 1 (tlAll LVp LVp.q (startR 1 (1 + 1) 0))).map (fun c => listOf c 4) = some [1, -14, 16, 1] := by kernel_rfl
theorem lvp_is : zoneR 1 (tlAll LVp LVp.q (startR 1 (1 + 1) 0)) = some cX := by
  cases e : zoneR 1 (tlAll LVp LVp.q (startR 1 (1 + 1) 0)) with
  | none => have h := lvp_zone; rw [e] at h; cases h
  | some c =>
    have h := lvp_zone
    rw [e] at h
    have h : listOf c 4 = [1, -14, 16, 1] := by simpa using h
    congr 1
    funext k
    by_cases hk : k < 4
    · rw [← listOf_get c 4 k hk, h]
      rfl
    · rw [zoneR_zero e k (by omega)]
      unfold cX
      rw [List.getD_eq_getElem?_getD, List.getElem?_eq_none (by simp; omega)]
      rfl
theorem cX_right (k : Nat) : rightB (cX k) = true := zoneR_right lvp_is k
theorem cX_unit : unitsF 1 cX 0 = 15 := by kernel_rfl
theorem new15 : newT 15 2 = (15, 2, 0) := by kernel_rfl
def L75 : Rats := ⟨1, fun _ => 15, fun _ => 2⟩
def L7 : Rats := ⟨1, fun _ => 7, fun _ => 1⟩
theorem in75 : inB 1 4 cX (gridL 1 (unitsF 1 cX) ((1 : Nat) + 1)) = true := by kernel_rfl
theorem fit7 : fitB L7 1 = true := by kernel_rfl
theorem del7 : delB 1 4 cX L7 = (spanV 0 1 1 1 false false false, true) := by kernel_rfl
set_option maxHeartbeats 4000000 in
theorem plive_any (w : World) : Calls Tryz.prog 14 #[] w fun e w' => e = .returned (.bool true) ∧ Below w.heap.size w w' := by
  have B0 := hideD (below_one w (.cells #[.int .i64 1, .int .i64 0, .int .i32 16, .int .i64 0, .int .i64 1, .int .i32 (-14)] 95))
  have HL := limits_main 1 w.heap.size 0 2 LVp (w.alloc (.cells #[.int .i64 1, .int .i64 0, .int .i32 16, .int .i64 0, .int .i64 1, .int .i32 (-14)] 95)) (by omega) (fun k hk => by
    rcases (show k = 0 ∨ k = 1 by have : k < 2 := hk; omega) with rfl | rfl <;> simp [go_sem, LVp]) (by simp) (fun k hk => by rcases (show k = 0 ∨ k = 1 by have : k < 2 := hk; omega) with rfl | rfl <;> simp [LVp]) (by show 2 ≤ 9223372036854775807; decide)
  rw [lvp_is] at HL
  have HL := hideD HL
  go_enter Tryz.func14, Tryz.ntmps14
  go_wp2_with fail
  refine HL.out.mono ?_
  rintro e w1 ⟨hb1, ⟨hbad, -⟩ | ⟨-, z, l1, rfl, hz⟩⟩
  · exfalso
    have : okAll 1 LVp LVp.q = true := by kernel_rfl
    rw [this] at hbad
    cases hbad
  have B1 := hideD (beyondD B0.out hb1)
  have H1 := hideD (leastP_any z 1 4 cX w1 (by omega) rfl hz cX_right (by decide) (fun k hk => by
    obtain rfl : k = 0 := by omega
    rw [cX_unit]
    exact congrArg (fun p => p.2.2) new15))
  have Z1 := hideD hz
  clear HL hb1 hz B0
  go_wp2_with fail
  refine H1.out.mono ?_
  rintro e w2 ⟨⟨ad, cp, rfl, hnil, hV, -⟩, hb2⟩
  obtain ⟨g, off, rfl, v0, v1⟩ := hV 0 (by show 0 < 1; omega)
  have V0 : w2.cell? ⟨g, off, none⟩ = some (.int .i64 15) := by
    rw [show (gridL 1 (unitsF 1 cX) (((1 : Nat) : Int) + 1)).n 0 = 15 by show (newT (unitsF 1 cX 0) 2).1 = 15; rw [cX_unit, new15]] at v0
    simpa using v0
  have V1 : w2.cell? ⟨g, off + 1, none⟩ = some (.int .i64 2) := by
    rw [show (gridL 1 (unitsF 1 cX) (((1 : Nat) : Int) + 1)).d 0 = 2 by show (newT (unitsF 1 cX 0) 2).2.1 = 2; rw [cX_unit, new15]] at v1
    simpa using v1
  have HN := hideD hnil
  have HV := hideD hV
  have B2 := hideD (beyondD B1.out hb2)
  have Z2 := hideD (Z1.out.past hb2)
  clear H1 hb2 hnil hV B1 Z1 v0 v1
  obtain ⟨w3, e3⟩ : ∃ w3, w3 = w2.alloc (.cells #[.int .i64 7, .int .i64 1] 24) := ⟨_, rfl⟩
  have bo := below_one w2 (.cells #[.int .i64 7, .int .i64 1] 24)
  rw [← e3] at bo
  have c70 : w3.cell? ⟨w2.heap.size, 0, none⟩ = some (.int .i64 7) := by rw [e3]; simp [go_sem]
  have c71 : w3.cell? ⟨w2.heap.size, 1, none⟩ = some (.int .i64 1) := by rw [e3]; simp [go_sem]
  have HD := callsIn_wide.1 (delays_in z 1 4 1 1 (some ⟨w2.heap.size, 0, none⟩) cX L7 w3 (by omega) rfl (Z2.out.past bo) rfl (fun h => by cases h) (fun k hk => by
    obtain rfl : k = 0 := by have : k < 1 := hk; omega
    exact ⟨w2.heap.size, 0, rfl, c70, c71⟩) (fun k hk => ⟨by show -9223372036854775808 ≤ (7 : Int) ∧ (7 : Int) ≤ 9223372036854775807; decide, by show -9223372036854775808 ≤ (1 : Int) ∧ (1 : Int) ≤ 9223372036854775807; decide⟩) fit7)
  rw [del7] at HD
  rw [e3] at HD
  have HD := hideD HD
  have B3 := hideD (beyondD B2.out bo)
  have Z3 := hideD (Z2.out.past bo)
  have HV3 := hideD (HV.out.later bo)
  have V0 := kc _ _ bo V0
  have V1 := kc _ _ bo V1
  rw [e3] at V0 V1
  have V0 := hideD V0
  have V1 := hideD V1
  clear bo c70 c71 HV Z2 B2
  subst e3
  go_wp2_with fail
  refine HD.out.mono ?_
  rintro e w4 ⟨rfl, hb4⟩
  have B4 := hideD (beyondD B3.out hb4)
  have Z4 := hideD (Z3.out.past hb4)
  have HV4 := hideD (HV3.out.later hb4)
  have V0' := hideD (kc _ _ hb4 V0.out)
  have V1' := hideD (kc _ _ hb4 V1.out)
  clear HD B3 Z3 HV3 V0 V1 hb4
  have bo := below_one w4 (.cells #[.int .i64 0, .int .i64 1, .int .i64 1, .int .i64 1, .bool false, .bool false, .bool false] 73)
  have HI := inP_any z 1 4 1 cp (some ⟨g, off, none⟩) cX (gridL 1 (unitsF 1 cX) (((1 : Nat) : Int) + 1)) _ (by omega) rfl (Z4.out.past bo) rfl (by decide) (fun h => by cases h) (HV4.out.later bo) (fun k hk => by
    obtain rfl : k = 0 := by have : k < 1 := hk; omega
    show I64 (newT (unitsF 1 cX 0) 2).1 ∧ I64 (newT (unitsF 1 cX 0) 2).2.1
    rw [cX_unit, new15]
    exact ⟨by decide, by decide⟩)
  rw [show inB 1 4 cX (gridL 1 (unitsF 1 cX) (((1 : Nat) : Int) + 1)) = true from in75] at HI
  have HI := hideD HI
  have V0 := kc _ _ bo V0'.out
  have V1 := kc _ _ bo V1'.out
  have B5 := hideD (beyondD B4.out bo)
  clear bo V0' V1' B4 Z4 HV4 HN
  go_wp2_with fail
  refine HI.out.mono ?_
  rintro e w5 ⟨rfl, hb5⟩
  have s2 := kc ⟨w4.heap.size, 2, none⟩ (.int .i64 1) hb5 (by simp [go_sem])
  have s3 := kc ⟨w4.heap.size, 3, none⟩ (.int .i64 1) hb5 (by simp [go_sem])
  have s4 := kc ⟨w4.heap.size, 4, none⟩ (.bool false) hb5 (by simp [go_sem])
  have s5 := kc ⟨w4.heap.size, 5, none⟩ (.bool false) hb5 (by simp [go_sem])
  have s6 := kc ⟨w4.heap.size, 6, none⟩ (.bool false) hb5 (by simp [go_sem])
  have B6 := hideD (beyondD B5.out hb5)
  clear HI hb5 V0 V1 B5
  go_wp2_with fail
  go_ret
  exact ⟨rfl, B6.out⟩
end Go.Proofs.YtondgencdcimjaaGreat
