/-
  The walk of the statement ExtraNone.
-/
import Derived.Test.YtfffcmelkdmjaaaDoorZm
namespace Go.Proofs.YtfffcmelkdmjaaaDoor
open Go.RowKit
set_option linter.unusedVariables false
set_option maxRecDepth 100000
theorem ints_one {w : World} {g : Nat} {x : Int} (h : w.cell? ⟨g, 0, none⟩ = some (.int .i64 x)) : IntsAt w (.slice (some ⟨g, 0, none⟩) 1 1) [x] := .inr ⟨g, 0, 1, rfl, fun j hj => by
  obtain rfl : j = 0 := by simp at hj; omega
  exact h⟩
def LO : Lims := ⟨1, fun _ => 0, fun _ => 0, fun _ => 0⟩
theorem lo_zone : zoneR 1 (tlAll LO LO.q (startR 1 (1 + 1) 0)) = some fun _ => 0 := zone_hollow (by decide)
set_option maxHeartbeats 4000000 in
theorem extraNone.walk (ad : Option Addr) (len cap : Nat) (w : World) (ht : Pow w) :
    Calls Tryd.prog 18 #[.slice ad len cap] w fun e w' => e = .returned (.bool true) ∧ Below w.heap.size w w' := by
  have HV : Hid (∀ w', Below w.heap.size w w' → Calls Tryd.prog 63 #[] w' fun e w'' => e = .returned (.bool true) ∧ Below w'.heap.size w' w'') := fun w' hb => elive_any w' (pow_later ht hb)
  have zc : ZC 1 4 (fun _ => 0) := .inl rfl
  obtain ⟨c1, -, -, fR, fz, -, f0⟩ := free_rowL (n := 1) (m := 4) (l := []) (by omega) rfl zc rfl
  have f0 := f0 rfl
  subst f0
  obtain ⟨c2, -, -, gR, gz, -, g0⟩ := free_rowL (n := 1) (m := 4) (l := [1]) (by omega) rfl zc (by kernel_rfl)
  have g0 := g0 rfl
  subst g0
  have H1 := hideD (fun w' => max_err (.pointer none) (.slice ad len cap) 1 w' (lu_nil _ _ w'))
  have H2 := hideD (fun w' => lu_nil (.slice ad len cap) (.slice ad len cap) w')
  have H3 := hideD (fun (w' : World) u => gone_err (.pointer none) u 1 w' (same_w (freeN_nil u w')))
  have HL : Hid (∀ w' : World, Calls Tryd.prog 76 #[.int .i64 1, .slice (some ⟨w'.heap.size, 0, none⟩) 1 1] (w'.alloc (.cells #[.int .i64 0, .int .i64 0, .int .i32 0] 83)) fun e w'' => (∃ z, e = .returned (.tuple #[.pointer (some ⟨z, 0, none⟩), .int .i64 0]) ∧ Hid (ZoneAt w'' z 1 (fun _ => 0))) ∧ Below (w'.alloc (.cells #[.int .i64 0, .int .i64 0, .int .i32 0] 83)).heap.size (w'.alloc (.cells #[.int .i64 0, .int .i64 0, .int .i32 0] 83)) w'') := fun w' => by
    have HL := limits_main 1 w'.heap.size 0 1 LO (w'.alloc (.cells #[.int .i64 0, .int .i64 0, .int .i32 0] 83)) (by omega) (fun k hk => by
      obtain rfl : k = 0 := by have : k < 1 := hk; omega
      simp [go_sem, LO]) (by simp) (fun k hk => by simp [LO]) (by show 1 ≤ 9223372036854775807; decide)
    rw [lo_zone] at HL
    refine HL.mono fun e w'' ⟨hb, h⟩ => ?_
    rcases h with ⟨h, -⟩ | ⟨-, z, -, h, hz⟩
    · have : okAll 1 LO LO.q = true := by kernel_rfl
      rw [this] at h; cases h
    · exact ⟨⟨z, h, hz⟩, hb⟩
  have HM : Hid (∀ w' z g, ZoneAt w' z 1 (fun _ => 0) → w'.cell? ⟨g, 0, none⟩ = some (.int .i64 5) → Tells w' 1 61 #[.pointer (some ⟨z, 0, none⟩), .slice (some ⟨g, 0, none⟩) 1 1] (some fun _ => 0)) := fun w' z g hz hg => by
    have := max_of (l := [5]) (n := 1) (m := 4) (cap := 1) (by omega) rfl hz zc rfl (ints_one hg) (by kernel_rfl) zc fR fz
    rw [show luO 1 4 [5] [5] (fun _ => 0) = some (fun _ => 0) by unfold luO; rw [if_pos (by decide)]] at this
    exact this
  have HG : Hid (∀ w' z g, ZoneAt w' z 1 (fun _ => 0) → w'.cell? ⟨g, 0, none⟩ = some (.int .i64 1) → Tells w' 1 68 #[.pointer (some ⟨z, 0, none⟩), .slice (some ⟨g, 0, none⟩) 1 1] (some fun _ => 0)) := fun w' z g hz hg =>
    gone_tells _ _ 1 _ w' (freeL_tells (l := [1]) (by omega) (m := 4) rfl hz (zc_32 rfl zc) (ints_one hg) (by decide) (by kernel_rfl) gR gz)
  have HE : Hid (∀ w' z, ZoneAt w' z 1 (fun _ => 0) → Calls Tryd.prog 52 #[.pointer (some ⟨z, 0, none⟩)] w' fun e w'' => e = .returned (.bool true) ∧ Below w'.heap.size w' w'') := fun w' z hz => zempty_any z 1 _ w' (by omega) hz
  unfold Tells at *
  clear ht zc fR fz gR gz
  go_enter Tryd.func18, Tryd.ntmps18
  go_wp2_with fail
  refine (H1.out _).mono ?_
  rintro e w1 ⟨rfl, rfl⟩
  clear H1
  go_wp2_with fail
  refine (H2.out _).mono ?_
  rintro e w2 ⟨rfl, rfl⟩
  have H3' := hideD (H3.out (w2.alloc (.cells #[.int .i64 1] 3)) (.slice (some ⟨w2.heap.size, 0, none⟩) 1 1))
  have B0 := hideD (below_one w2 (.cells #[.int .i64 1] 3))
  clear H2 H3
  go_wp2_with fail
  refine H3'.out.mono ?_
  rintro e w3 ⟨rfl, hb3⟩
  have B1 := hideD (beyondD B0.out hb3)
  have HL3 := hideD (HL.out w3)
  have B2 := hideD (beyondD B1.out (below_one w3 (.cells #[.int .i64 0, .int .i64 0, .int .i32 0] 83)))
  clear H3' HL hb3 B0 B1
  go_wp2_with fail
  refine HL3.out.mono ?_
  rintro e w4 ⟨⟨z, rfl, hz⟩, hb4⟩
  have B3 := hideD (beyondD B2.out hb4)
  have bo := below_one w4 (.cells #[.int .i64 5] 3)
  have HM4 := hideD (HM.out (w4.alloc (.cells #[.int .i64 5] 3)) z w4.heap.size (hz.out.past bo) (by simp [go_sem]))
  have Z4 := hideD (hz.out.past bo)
  have B4 := hideD (beyondD B3.out bo)
  clear HL3 HM hz hb4 bo B2 B3
  go_wp2_with fail
  refine HM4.out.mono ?_
  rintro e w5 ⟨⟨B, pa, l2, rfl, ha⟩, hb5⟩
  have B5 := hideD (beyondD B4.out hb5)
  have bo := below_one w5 (.cells #[.int .i64 1] 3)
  have HG5 := hideD (HG.out (w5.alloc (.cells #[.int .i64 1] 3)) z w5.heap.size ((Z4.out.past hb5).past bo) (by simp [go_sem]))
  have A5 := hideD (ha.past bo)
  have B6 := hideD (beyondD B5.out bo)
  clear HM4 HG hb5 ha bo Z4 B4 B5
  go_wp2_with fail
  refine HG5.out.mono ?_
  rintro e w6 ⟨⟨B', pb, l3, rfl, hbz⟩, hb6⟩
  have B7 := hideD (beyondD B6.out hb6)
  have A6 := hideD (A5.out.past hb6)
  have Z6 := hideD hbz
  have HV6 := hideD (HV.out w6 B7.out)
  clear HG5 hb6 hbz A5 B6 HV
  go_wp2_with fail
  refine HV6.out.mono ?_
  rintro e w7 ⟨rfl, hb7⟩
  have B8 := hideD (beyondD B7.out hb7)
  have E7 := hideD (HE.out w7 pa (A6.out.past hb7))
  have Z7 := hideD (Z6.out.past hb7)
  clear HV6 hb7 A6 Z6 B7
  go_wp2_with fail
  refine E7.out.mono ?_
  rintro e w8 ⟨rfl, hb8⟩
  have B9 := hideD (beyondD B8.out hb8)
  have E8 := hideD (HE.out w8 pb (Z7.out.past hb8))
  clear E7 hb8 Z7 B8 HE
  go_wp2_with fail
  refine E8.out.mono ?_
  rintro e w9 ⟨rfl, hb9⟩
  go_wp2_with fail
  go_ret
  exact ⟨rfl, beyondD B9.out hb9⟩
end Go.Proofs.YtfffcmelkdmjaaaDoor
