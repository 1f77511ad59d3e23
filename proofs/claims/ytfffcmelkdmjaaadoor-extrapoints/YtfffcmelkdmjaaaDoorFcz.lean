/-
  The document's Holds of small fractions: wide, Less, Holds.
-/
import Derived.Test.YtfffcmelkdmjaaaDoorSc
import Derived.Test.YtfffcmelkdmjaaaDoorZc
import Derived.Test.YtfffcmelkdmjaaaDoorZa
namespace Go.Proofs.YtfffcmelkdmjaaaDoor
open Go.RowKit Go.Shelf
set_option linter.unusedVariables false
set_option maxRecDepth 100000
theorem u_neg_eq (n : Int) (h : n < 0) (h0 : -9223372036854775808 ≤ n) : IntKind.u64.wrap (-IntKind.u64.wrap n) = -n := by
  rw [IntKind.wrap_u64, IntKind.wrap_u64]
  omega
theorem u_pos_eq (n : Int) (h : 0 ≤ n) (h1 : n ≤ 9223372036854775807) : IntKind.u64.wrap n = n := by
  rw [IntKind.wrap_u64]
  omega
theorem mulS (x y : Int) (w : World) (x0 : 0 ≤ x) (x1 : x ≤ 4294967296) (y0 : 0 ≤ y) (y1 : y ≤ 4294967295) :
    Calls Tryd.prog 161 #[.int .u64 x, .int .u64 y] w fun e w' => e = .returned (.tuple #[.int .u64 0, .int .u64 (x * y)]) ∧ w' = w := by
  obtain ⟨a, rfl⟩ := Int.eq_ofNat_of_zero_le x0
  obtain ⟨b, rfl⟩ := Int.eq_ofNat_of_zero_le y0
  have h := Go.Proofs.Tryd.bits_Mul64 a b (by omega) (by omega) w
  have lt : a * b ≤ 4294967296 * 4294967295 := Nat.mul_le_mul (by omega) (by omega)
  have e1 : ((a * b / 18446744073709551616 : Nat) : Int) = 0 := by omega
  have e2 : ((a * b % 18446744073709551616 : Nat) : Int) = (a : Int) * (b : Int) := by rw [← Int.natCast_mul]; omega
  rw [e1, e2] at h
  exact h
set_option maxHeartbeats 1000000 in
theorem rwide_pos (v d z : Int) (w : World) (v0 : 0 ≤ v) (v1 : v ≤ 4294967296) (d0 : 1 ≤ d) (d1 : d ≤ 4294967295) (hz : v * d = z) :
    Calls Tryd.prog 152 #[.int .i64 v, .int .i64 d] w fun e w' => e = .returned (.tuple #[.int .u64 0, .int .u64 z, .bool false]) ∧ w' = w := by
  have HM := hideD (mulS v d w v0 (by omega) (by omega) d1)
  rw [hz] at HM
  have E1 := u_pos_eq v v0 (by omega)
  have E2 := u_pos_eq d (by omega) (by omega)
  clear hz
  go_enter Tryd.func152, Tryd.ntmps152
  go_wp2_with fail
  refine HM.out.mono ?_
  rintro e w1 ⟨rfl, rfl⟩
  go_wp2_with fail
  go_ret3
  exact ⟨rfl, rfl⟩
set_option maxHeartbeats 1000000 in
theorem rwide_neg (v d z : Int) (w : World) (v0 : v < 0) (v1 : -4294967296 ≤ v) (d0 : 1 ≤ d) (d1 : d ≤ 4294967295) (hz : (-v) * d = z) (zp : (z != 0) = true) :
    Calls Tryd.prog 152 #[.int .i64 v, .int .i64 d] w fun e w' => e = .returned (.tuple #[.int .u64 0, .int .u64 z, .bool true]) ∧ w' = w := by
  have HM := hideD (mulS (-v) d w (by omega) (by omega) (by omega) d1)
  rw [hz] at HM
  have E1 := u_neg_eq v v0 (by omega)
  have E2 := u_pos_eq d (by omega) (by omega)
  clear hz
  go_enter Tryd.func152, Tryd.ntmps152
  go_wp2_with fail
  refine HM.out.mono ?_
  rintro e w1 ⟨rfl, rfl⟩
  go_wp2_with fail
  go_ret3
  exact ⟨rfl, rfl⟩
def cmpI (a b : Int) : Int := if a < b then -1 else if a = b then 0 else 1
set_option maxHeartbeats 2000000 in
theorem rless_any (n d v : Int) (w : World) (n0 : -4611686018427387904 ≤ n) (n1 : n ≤ 4611686018427387904) (v0 : -4294967296 ≤ v) (v1 : v ≤ 4294967296) (d0 : 1 ≤ d) (d1 : d ≤ 4294967295) :
    Calls Tryd.prog 131 #[.int .i64 n, .int .i64 d, .int .i64 v] w fun e w' => e = .returned (.int .i64 (cmpI n (v * d))) ∧ w' = w := by
  by_cases hv : v < 0
  · have zp : 1 ≤ (-v) * d := by
      have := Int.mul_le_mul (show (1 : Int) ≤ -v by omega) d0 (by decide) (by omega)
      omega
    have zb : (-v) * d ≤ 4294967296 * 4294967295 := Int.mul_le_mul (by omega) d1 (by omega) (by decide)
    have ez : v * d = -((-v) * d) := by rw [Int.neg_mul, Int.neg_neg]
    have HW := hideD (rwide_neg v d _ w hv v0 d0 d1 rfl (by simp; omega))
    rw [ez]
    clear ez
    generalize (-v) * d = z at *
    by_cases hn : n < 0
    · have E1 := u_neg_eq n hn (by omega)
      have c3 : (-n != 0) = true := by simp; omega
      by_cases c1 : -n < z
      · have e : cmpI n (-z) = 1 := by unfold cmpI; rw [if_neg (by omega), if_neg (by omega)]
        rw [e]
        clear e
        go_enter Tryd.func131, Tryd.ntmps131
        go_wp2_with fail
        refine HW.out.mono ?_
        rintro e w1 ⟨rfl, rfl⟩
        go_wp2_with fail
        all_goals go_ret
        all_goals exact ⟨rfl, rfl⟩
      · by_cases c2 : z < -n
        · have e : cmpI n (-z) = -1 := by unfold cmpI; rw [if_pos (by omega)]
          rw [e]
          clear e
          go_enter Tryd.func131, Tryd.ntmps131
          go_wp2_with fail
          refine HW.out.mono ?_
          rintro e w1 ⟨rfl, rfl⟩
          go_wp2_with fail
          all_goals go_ret
          all_goals exact ⟨rfl, rfl⟩
        · have e : cmpI n (-z) = 0 := by unfold cmpI; rw [if_neg (by omega), if_pos (by omega)]
          rw [e]
          clear e
          go_enter Tryd.func131, Tryd.ntmps131
          go_wp2_with fail
          refine HW.out.mono ?_
          rintro e w1 ⟨rfl, rfl⟩
          go_wp2_with fail
          all_goals go_ret
          all_goals exact ⟨rfl, rfl⟩
    · have E1 := u_pos_eq n (by omega) (by omega)
      have e : cmpI n (-z) = 1 := by unfold cmpI; rw [if_neg (by omega), if_neg (by omega)]
      rw [e]
      clear e
      by_cases c1 : n < z
      · go_enter Tryd.func131, Tryd.ntmps131
        go_wp2_with fail
        refine HW.out.mono ?_
        rintro e w1 ⟨rfl, rfl⟩
        go_wp2_with fail
        all_goals go_ret
        all_goals exact ⟨rfl, rfl⟩
      · by_cases c2 : z < n
        all_goals
          go_enter Tryd.func131, Tryd.ntmps131
          go_wp2_with fail
          refine HW.out.mono ?_
          rintro e w1 ⟨rfl, rfl⟩
          go_wp2_with fail
          all_goals go_ret
          all_goals exact ⟨rfl, rfl⟩
  · have zp : 0 ≤ v * d := Int.mul_nonneg (by omega) (by omega)
    have zb : v * d ≤ 4294967296 * 4294967295 := Int.mul_le_mul (by omega) d1 (by omega) (by decide)
    have HW := hideD (rwide_pos v d _ w (by omega) v1 d0 d1 rfl)
    generalize v * d = z at *
    by_cases hn : n < 0
    · have E1 := u_neg_eq n hn (by omega)
      have c3 : (-n != 0) = true := by simp; omega
      have e : cmpI n z = -1 := by unfold cmpI; rw [if_pos (by omega)]
      rw [e]
      clear e
      by_cases c1 : -n < z
      · go_enter Tryd.func131, Tryd.ntmps131
        go_wp2_with fail
        refine HW.out.mono ?_
        rintro e w1 ⟨rfl, rfl⟩
        go_wp2_with fail
        all_goals go_ret
        all_goals exact ⟨rfl, rfl⟩
      · by_cases c2 : z < -n
        all_goals
          go_enter Tryd.func131, Tryd.ntmps131
          go_wp2_with fail
          refine HW.out.mono ?_
          rintro e w1 ⟨rfl, rfl⟩
          go_wp2_with fail
          all_goals go_ret
          all_goals exact ⟨rfl, rfl⟩
    · have E1 := u_pos_eq n (by omega) (by omega)
      by_cases c1 : n < z
      · have e : cmpI n z = -1 := by unfold cmpI; rw [if_pos c1]
        rw [e]
        clear e
        go_enter Tryd.func131, Tryd.ntmps131
        go_wp2_with fail
        refine HW.out.mono ?_
        rintro e w1 ⟨rfl, rfl⟩
        go_wp2_with fail
        all_goals go_ret
        all_goals exact ⟨rfl, rfl⟩
      · by_cases c2 : z < n
        · have e : cmpI n z = 1 := by unfold cmpI; rw [if_neg c1, if_neg (by omega)]
          rw [e]
          clear e
          go_enter Tryd.func131, Tryd.ntmps131
          go_wp2_with fail
          refine HW.out.mono ?_
          rintro e w1 ⟨rfl, rfl⟩
          go_wp2_with fail
          all_goals go_ret
          all_goals exact ⟨rfl, rfl⟩
        · have e : cmpI n z = 0 := by unfold cmpI; rw [if_neg c1, if_pos (by omega)]
          rw [e]
          clear e
          go_enter Tryd.func131, Tryd.ntmps131
          go_wp2_with fail
          refine HW.out.mono ?_
          rintro e w1 ⟨rfl, rfl⟩
          go_wp2_with fail
          all_goals go_ret
          all_goals exact ⟨rfl, rfl⟩
set_option maxHeartbeats 1000000 in
theorem rholds_any (b n d : Int) (w : World) (hb : rightB b = true) (n0 : -4611686018427387904 ≤ n) (n1 : n ≤ 4611686018427387904) (d0 : 1 ≤ d) (d1 : d ≤ 4294967295) :
    Calls Tryd.prog 74 #[.int .i32 b, .int .i64 n, .int .i64 d] w fun e w' => e = .returned (.bool (holdsB b n d)) ∧ w' = w := by
  have br : b = 2147483647 ∨ (-536870912 ≤ b ∧ b ≤ 536870913) := by unfold rightB at hb; simpa using hb
  have HR := hideD (rright_any b w (by omega) (by omega))
  rw [hb] at HR
  have HV := hideD (rvalue_any b w (by omega) (by omega))
  by_cases e : b = 2147483647
  · subst e
    have eh : holdsB 2147483647 n d = true := by unfold holdsB; simp
    have ef : finB 2147483647 = false := by decide
    rw [eh]
    rw [ef] at HV
    clear eh ef br hb
    go_enter Tryd.func74, Tryd.ntmps74
    go_wp2_with fail
    refine HR.out.mono ?_
    rintro e w1 ⟨rfl, rfl⟩
    go_wp2_with fail
    refine HV.out.mono ?_
    rintro e w1 ⟨rfl, rfl⟩
    go_wp2_with fail
    go_ret
    exact ⟨rfl, rfl⟩
  · have hf : finB b = true := by unfold finB; simp; omega
    have hv : valV b = b / 2 := by simp [valV, hf]
    have HL := hideD (rless_any n d (valV b) w n0 n1 (by omega) (by omega) d0 d1)
    have eh : Hid (holdsB b n d = (decide (cmpI n (valV b * d) < 0) || (decide (cmpI n (valV b * d) = 0) && valR b))) := by
      show holdsB b n d = _
      unfold holdsB cmpI
      rw [hf]
      generalize valV b * d = z
      have d2 : decide (1 ≤ d) = true := by simpa using d0
      have b2 : decide (b = 2147483647) = false := by simpa using e
      rw [d2, b2]
      cases valR b
      · by_cases q : n < z
        · simp [q]
        · by_cases q2 : n = z <;> simp [q, q2]
      · by_cases q : n < z
        · simp [q]; omega
        · by_cases q2 : n = z
          · simp [q2]
          · simp [q, q2]; omega
    rw [hf] at HV
    clear hf hv br hb e
    generalize valV b * d = z at *
    generalize holdsB b n d = q at *
    generalize valV b = v at *
    generalize valR b = r at *
    have c3 : cmpI n z = -1 ∨ cmpI n z = 0 ∨ cmpI n z = 1 := by unfold cmpI; split; exact .inl rfl; split; exact .inr (.inl rfl); exact .inr (.inr rfl)
    generalize cmpI n z = c at *
    rcases c3 with rfl | rfl | rfl
    · have eh : Hid (q = true) := eh.out.trans (by cases r <;> rfl)
      go_enter Tryd.func74, Tryd.ntmps74
      go_wp2_with fail
      refine HR.out.mono ?_
      rintro e w1 ⟨rfl, rfl⟩
      go_wp2_with fail
      refine HV.out.mono ?_
      rintro e w1 ⟨rfl, rfl⟩
      go_wp2_with fail
      refine HL.out.mono ?_
      rintro e w1 ⟨rfl, rfl⟩
      go_wp2_with fail
      go_ret
      exact ⟨by rw [eh.out]; rfl, rfl⟩
    · have eh : Hid (q = r) := eh.out.trans (by cases r <;> rfl)
      go_enter Tryd.func74, Tryd.ntmps74
      go_wp2_with fail
      refine HR.out.mono ?_
      rintro e w1 ⟨rfl, rfl⟩
      go_wp2_with fail
      refine HV.out.mono ?_
      rintro e w1 ⟨rfl, rfl⟩
      go_wp2_with fail
      refine HL.out.mono ?_
      rintro e w1 ⟨rfl, rfl⟩
      go_wp2_with fail
      go_ret
      exact ⟨by rw [eh.out]; rfl, rfl⟩
    · have eh : Hid (q = false) := eh.out.trans (by cases r <;> rfl)
      go_enter Tryd.func74, Tryd.ntmps74
      go_wp2_with fail
      refine HR.out.mono ?_
      rintro e w1 ⟨rfl, rfl⟩
      go_wp2_with fail
      refine HV.out.mono ?_
      rintro e w1 ⟨rfl, rfl⟩
      go_wp2_with fail
      refine HL.out.mono ?_
      rintro e w1 ⟨rfl, rfl⟩
      go_wp2_with fail
      go_ret
      exact ⟨by rw [eh.out]; rfl, rfl⟩
end Go.Proofs.YtfffcmelkdmjaaaDoor
