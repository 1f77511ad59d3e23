/-
  live of gnomonlaw03.
-/
import Derived.Test.YtdkolgndebkloaaGreatDoorTxAz
import Derived.Test.YtdkolgndebkloaaGreatDoorZa
namespace Go.Proofs.YtdkolgndebkloaaGreatDoor
open Go.RowKit
set_option linter.unusedVariables false
set_option maxRecDepth 100000
set_option maxHeartbeats 2000000 in
theorem live3_any (w : World) : Calls Tryz.prog 7 #[] w fun e w' => e = .returned (.bool true) ∧ Below w.heap.size w w' := by
  obtain ⟨c, ec, hc⟩ := map_some zero1
  obtain ⟨d, ed, hd⟩ := map_some univ1
  have HZ := hideD (zero_dbm 1 w (by omega))
  have HU : Hid (∀ w, Calls Tryz.prog 24 #[.int .i64 1] w fun e w' => Below w.heap.size w w' ∧ ZoneOut w' w.heap.size 1 e (some d)) := fun w => by
    have := universe_any 1 w (by omega)
    rw [ed] at this
    exact this
  rw [ec] at HZ
  go_enter Tryz.func7, Tryz.ntmps7
  go_wp2_with fail
  refine HZ.out.mono ?_
  rintro e w1 ⟨hb1, b1, l1, rfl, z1⟩
  go_wp2_with fail
  refine (HU.out _).mono ?_
  rintro e w2 ⟨hb2, b2, l2, rfl, y2⟩
  have z2 := z1.past hb2
  have B2 := hideD (beyondD hb1 hb2)
  have HC1 := hideD (cells_any b1 1 c w2 z2 (by omega))
  have Z2 := hideD z2
  have Y2 := hideD y2
  clear z1 z2 y2 hb1 hb2 HU HZ
  go_wp2_with fail
  refine HC1.out.mono ?_
  rintro e w3 ⟨⟨v, rfl, g, cap, rfl, hg, hgl, hr⟩, hb3⟩
  rw [list4 c 1 1 1 1 hc] at hr ⊢
  have HS1 := hideD (same_lit g cap 4 [1, 1, 1, 1] 47 w3 hr rfl (by omega) (by omega))
  have B3 := hideD (beyondD B2.out hb3)
  have Z3 := hideD (Z2.out.past hb3)
  have Y3 := hideD (Y2.out.past hb3)
  clear hr hb3 B2 Z2 Y2 HC1
  go_wp2_with fail
  refine HS1.out.mono ?_
  rintro e w4 ⟨rfl, hb4⟩
  have B4 := hideD (beyondD B3.out hb4)
  have Z4 := hideD (Z3.out.past hb4)
  have Y4 := hideD (Y3.out.past hb4)
  have HC2 := hideD (cells_any b2 1 d w4 Y4.out (by omega))
  clear hb4 B3 Z3 Y3 HS1
  go_wp2_with fail
  refine HC2.out.mono ?_
  rintro e w5 ⟨⟨v, rfl, g', cap', rfl, hg', hgl', hr⟩, hb5⟩
  rw [list4 d 1 1 2147483647 1 hd] at hr ⊢
  have HS2 := hideD (same_lit g' cap' 4 [1, 1, 2147483647, 1] 47 w5 hr rfl (by omega) (by omega))
  have B5 := hideD (beyondD B4.out hb5)
  have Z5 := hideD (Z4.out.past hb5)
  have Y5 := hideD (Y4.out.past hb5)
  clear hr hb5 B4 Z4 Y4 HC2
  go_wp2_with fail
  refine HS2.out.mono ?_
  rintro e w6 ⟨rfl, hb6⟩
  have B6 := hideD (beyondD B5.out hb6)
  have Z6 := hideD (Z5.out.past hb6)
  have Y6 := hideD (Y5.out.past hb6)
  clear hb6 B5 Z5 Y5 HS2
  have c0 : c 0 = 1 ∧ c 1 = 1 ∧ c 2 = 1 ∧ c 3 = 1 := by simpa using hc
  have d0 : d 0 = 1 ∧ d 1 = 1 ∧ d 2 = 2147483647 ∧ d 3 = 1 := by simpa using hd
  have N1 : nless d c ((1 + 1) * (1 + 1)) = true := by simp [nless, c0, d0]
  have N2 : nless c d ((1 + 1) * (1 + 1)) = false := by simp [nless, c0, d0]
  have I1 := includes_some b2 b1 1 d c w6 Y6.out Z6.out (by omega) (by rw [c0.1]; rfl)
  rw [N1] at I1
  have HI1 := hideD I1
  clear I1 c0
  go_wp2_with fail
  refine HI1.out.mono ?_
  rintro e w7 ⟨rfl, hb7⟩
  have I2 := includes_some b1 b2 1 c d w7 (Z6.out.past hb7) (Y6.out.past hb7) (by omega) (by rw [d0.1]; rfl)
  rw [N2] at I2
  have HI2 := hideD I2
  have B7 := hideD (beyondD B6.out hb7)
  clear I2 d0 hb7
  go_wp2_with fail
  refine HI2.out.mono ?_
  rintro e w8 ⟨rfl, hb8⟩
  go_wp2_with fail
  go_ret
  exact ⟨rfl, beyondD B7.out hb8⟩
end Go.Proofs.YtdkolgndebkloaaGreatDoor
