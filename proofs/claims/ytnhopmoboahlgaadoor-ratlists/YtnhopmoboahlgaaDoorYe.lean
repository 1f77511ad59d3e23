/-
  rat.Least and rat.Greatest of a list of fractions.
-/
import Derived.Test.YtnhopmoboahlgaaDoorYd
namespace Go.Proofs.YtnhopmoboahlgaaDoor
open Go.RowKit Go.Shelf
set_option linter.unusedVariables false
theorem least_is (an ad bn bd : Int) (w : World) (ha : I64 an) (hb : I64 ad) (hc : I64 bn) (hd : I64 bd) :
    Calls Tryd.prog 55 #[rv an ad, rv bn bd] w fun e w' => e = .returned (.bool (decide (cmpT an ad bn bd < 0))) ∧ Below w.heap.size w w' := by
  have HC : Hid (∀ w, Calls Tryd.prog 22 #[rv an ad, rv bn bd] w fun e w' => e = .returned (.int .i64 (cmpT an ad bn bd)) ∧ Below w.heap.size w w') := hideR fun w => rcmp_any an ad bn bd w ha hb hc hd
  generalize cmpT an ad bn bd = c at *
  go_enter Tryd.func55, Tryd.ntmps55
  go_wp2_with fail
  refine (HC.out _).mono ?_
  rintro e w1 ⟨rfl, hb⟩
  have hB := beyond (two w _ _) hb
  go_wp2_with fail
  go_ret
  exact ⟨rfl, hB⟩
theorem greatest_is (an ad bn bd : Int) (w : World) (ha : I64 an) (hb : I64 ad) (hc : I64 bn) (hd : I64 bd) :
    Calls Tryd.prog 57 #[rv an ad, rv bn bd] w fun e w' => e = .returned (.bool (decide (0 < cmpT an ad bn bd))) ∧ Below w.heap.size w w' := by
  have HC : Hid (∀ w, Calls Tryd.prog 22 #[rv an ad, rv bn bd] w fun e w' => e = .returned (.int .i64 (cmpT an ad bn bd)) ∧ Below w.heap.size w w') := hideR fun w => rcmp_any an ad bn bd w ha hb hc hd
  generalize cmpT an ad bn bd = c at *
  go_enter Tryd.func57, Tryd.ntmps57
  go_wp2_with fail
  refine (HC.out _).mono ?_
  rintro e w1 ⟨rfl, hb⟩
  have hB := beyond (two w _ _) hb
  go_wp2_with fail
  go_ret
  exact ⟨rfl, hB⟩
theorem cmpT_vals (an ad bn bd : Int) : cmpT an ad bn bd = -1 ∨ cmpT an ad bn bd = 0 ∨ cmpT an ad bn bd = 1 := by
  unfold cmpT cmpV
  repeat' split
  all_goals simp
theorem cmpT_self (n d : Int) : cmpT n d n d = 0 := by
  unfold cmpT cmpV
  simp
theorem least_step (L : Rats) (J : Nat) : bestG L (-1) J = if decide (cmpT (L.n J) (L.d J) (bestG L (-1) (J - 1)).1 (bestG L (-1) (J - 1)).2 < 0) = true then (L.n J, L.d J) else bestG L (-1) (J - 1) := by
  cases J with
  | zero =>
    show (L.n 0, L.d 0) = if decide (cmpT (L.n 0) (L.d 0) (L.n 0) (L.d 0) < 0) = true then (L.n 0, L.d 0) else (L.n 0, L.d 0)
    split <;> rfl
  | succ k =>
    rw [Nat.add_sub_cancel, bestG]
    have := cmpT_vals (L.n (k + 1)) (L.d (k + 1)) (bestG L (-1) k).1 (bestG L (-1) k).2
    generalize cmpT (L.n (k + 1)) (L.d (k + 1)) (bestG L (-1) k).1 (bestG L (-1) k).2 = c at *
    rcases this with h | h | h <;> subst h <;> rfl
theorem greatest_step (L : Rats) (J : Nat) : bestG L 1 J = if decide (0 < cmpT (L.n J) (L.d J) (bestG L 1 (J - 1)).1 (bestG L 1 (J - 1)).2) = true then (L.n J, L.d J) else bestG L 1 (J - 1) := by
  cases J with
  | zero =>
    show (L.n 0, L.d 0) = if decide (0 < cmpT (L.n 0) (L.d 0) (L.n 0) (L.d 0)) = true then (L.n 0, L.d 0) else (L.n 0, L.d 0)
    split <;> rfl
  | succ k =>
    rw [Nat.add_sub_cancel, bestG]
    have := cmpT_vals (L.n (k + 1)) (L.d (k + 1)) (bestG L 1 k).1 (bestG L 1 k).2
    generalize cmpT (L.n (k + 1)) (L.d (k + 1)) (bestG L 1 k).1 (bestG L 1 k).2 = c at *
    rcases this with h | h | h <;> subst h <;> rfl
set_option maxRecDepth 100000 in
set_option maxHeartbeats 4000000 in
theorem least_choose (ad : Option Addr) (cap : Nat) (L : Rats) (w : World) (hV : RatV w ad L) (hI : RatI L) (hq : L.q ≤ 9223372036854775807) :
    Calls Tryd.prog 54 #[.slice ad L.q cap, .func (.func 55) #[] #[]] w fun e w' => e = .returned (tripB (bestT L (-1))) ∧ Below w.heap.size w w' := by
  have HV := hideR hV
  have HI := hideR hI
  have EZ : Hid (L.q = 0 → bestT L (-1) = (0, 0, false)) := fun h => by simp [bestT, h]
  have EN : Hid (allR L L.q = false → bestT L (-1) = (0, 0, false)) := fun h => by simp [bestT, h]
  have EY : Hid (∀ k, L.q = k + 1 → allR L L.q = true → bestT L (-1) = ((bestG L (-1) k).1, (bestG L (-1) k).2, true)) := fun k h g => by
    unfold bestT
    rw [if_neg (by omega), if_pos g, h, Nat.add_sub_cancel]
  have HA : Hid (∀ k, k ≤ L.q → allR L k = false → allR L L.q = false) := fun k hk h => allR_false h _ hk
  clear hV hI
  generalize hm : L.q = m at *
  have HM := hideR hm
  clear hm
  have R0 := hideR (ret_start w)
  by_cases z : m = 0
  · subst z
    have R := hideR (EZ.out rfl)
    go_enter Tryd.func54, Tryd.ntmps54
    go_wp2_with fail
    refine bodyPost_ret (v := tripB (0, 0, false)) (by simp [results, Tryd.results54, go_sem, *]) rfl ⟨by rw [R.out], ?_⟩
    first | exact single _ _ | exact set2 (single _ _) (Nat.le_refl _) _ _
  · obtain ⟨b, off, rfl, d1, d2⟩ := HV.out 0 (by rw [HM.out]; omega)
    have d1' : w.cell? ⟨b, off, none⟩ = some (.int .i64 (L.n 0)) := by simpa using d1
    have d2' : w.cell? ⟨b, off + 1, none⟩ = some (.int .i64 (L.d 0)) := by simpa using d2
    have c1 := kc _ _ (single w (.cells #[.int .i64 0, .int .i64 0] 23)) d1'
    have c2 := kc _ _ (single w (.cells #[.int .i64 0, .int .i64 0] 23)) d2'
    have z0 : ((m : Int) == 0) = false := by simp; omega
    have z1 : (0 : Int) < (m : Int) := by omega
    obtain ⟨p, hp⟩ : ∃ p, m = p + 1 := ⟨m - 1, by omega⟩
    have HP := hideR hp
    have G0 : Hid (bestG L (-1) 0 = (L.n 0, L.d 0)) := rfl
    clear d1 d2 d1' d2' hp EZ z
    generalize L.n 0 = x at *
    generalize L.d 0 = y at *
    go_enter Tryd.func54, Tryd.ntmps54
    go_wp2_with fail
    have hT : (w.alloc (.cells #[.int .i64 0, .int .i64 0] 23)).heap.size = w.heap.size + 1 := by simp
    have SA := R0.out.new x y 0 23
    rw [hT] at SA
    have q1 : w.heap.size < w.heap.size + 1 := by omega
    clear R0 c1 c2 hT z0 z1
    generalize (w.alloc (.cells #[.int .i64 0, .int .i64 0] 23)).alloc (.cells #[.int .i64 x, .int .i64 y] 23) = W2 at *
    generalize w.heap.size + 1 = T at *
    have I0 : Hid (SumAt W2 w T ((bestG L (-1) (0 - 1)).1, (bestG L (-1) (0 - 1)).2, 0)) := by show SumAt _ _ _ _; rw [show (0 - 1 : Nat) = 0 from rfl, G0.out]; exact SA
    clear SA G0
    go_loopw [18] (fun z wr => ∃ (J : Nat), J ≤ m ∧ z = .int .i64 J ∧ Hid (allR L J = true) ∧ Hid (SumAt wr w T ((bestG L (-1) (J - 1)).1, (bestG L (-1) (J - 1)).2, 0))) (fun z _ => m - (intOf z).toNat)
    case atStart => exact ⟨0, by omega, rfl, rfl, I0⟩
    case round =>
      obtain ⟨J, hJ, rfl, E, SA⟩ := hrel
      clear I0
      by_cases cj : J < m
      · obtain ⟨b', off', e1, d1, d2⟩ := HV.out J (by rw [HM.out]; exact cj)
        injection e1 with e1
        injection e1 with e2 e3
        subst e2
        subst e3
        have c1 := kc _ _ SA.out.2.2.2.2.2.2.2.2 d1
        have c2 := kc _ _ SA.out.2.2.2.2.2.2.2.2 d2
        obtain ⟨i1, i2⟩ := HI.out J (by rw [HM.out]; exact cj)
        obtain ⟨i3, i4⟩ := best_i64 (s := (-1)) HI.out (J - 1) (by rw [HM.out]; omega)
        have HR := hideR (askR (L.n J) (L.d J) i1 i2)
        have HC : Hid (∀ w, Calls Tryd.prog 55 #[rv (L.n J) (L.d J), rv (bestG L (-1) (J - 1)).1 (bestG L (-1) (J - 1)).2] w fun e w' => e = .returned (.bool (decide (cmpT (L.n J) (L.d J) (bestG L (-1) (J - 1)).1 (bestG L (-1) (J - 1)).2 < 0))) ∧ Below w.heap.size w w') := hideR fun w => least_is _ _ _ _ w i1 i2 i3 i4
        have NXR : Hid (allR L (J + 1) = rightR (L.n J) (L.d J)) := by show _ = _; rw [allR, E.out, Bool.true_and]
        have NX : Hid (bestG L (-1) (J + 1 - 1) = if (decide (cmpT (L.n J) (L.d J) (bestG L (-1) (J - 1)).1 (bestG L (-1) (J - 1)).2 < 0)) = true then (L.n J, L.d J) else bestG L (-1) (J - 1)) := by
          show _ = _
          rw [Nat.add_sub_cancel]
          exact least_step L J
        have k0 : (0 : Int) ≤ (J : Int) := by omega
        have k1 : (J : Int) < (m : Int) := by omega
        have HF : Hid (allR L (J + 1) = false → bestT L (-1) = (0, 0, false)) := fun h => EN.out (by have := HA.out (J + 1) (by omega) h; exact this)
        clear d1 d2 i1 i2 i3 i4
        generalize L.n J = u at *
        generalize L.d J = v at *
        generalize bestG L (-1) (J - 1) = t at *
        obtain ⟨x1, y1⟩ := t
        dsimp only at SA HC NX
        generalize decide (cmpT u v x1 y1 < 0) = cc at *
        go_upto_region 7 with (fail)
        have SB := hideR (SA.out.later (single wr (.cells #[.int .i64 u, .int .i64 v] 23)))
        have r0 : (wr.alloc (.cells #[.int .i64 u, .int .i64 v] 23)).cell? ⟨wr.heap.size, 0, none⟩ = some (.int .i64 u) := new_cell wr _ _ 0
        have r1 : (wr.alloc (.cells #[.int .i64 u, .int .i64 v] 23)).cell? ⟨wr.heap.size, 1, none⟩ = some (.int .i64 v) := new_cell wr _ _ 1
        have n3 : ¬ wr.heap.size = T := by have := World.block_lt_of_cell? _ _ SA.out.1; simp only at this; omega
        clear SA c1 c2
        generalize wr.alloc (.cells #[.int .i64 u, .int .i64 v] 23) = W3 at *
        generalize wr.heap.size = rb at *
        have n1 : ¬ T = w.heap.size := by omega
        have n2 : ¬ w.heap.size = T := by omega
        have n4 : ¬ T = rb := fun e => n3 e.symm
        cases r : rightR u v
        · rw [r] at HR
          have NX' : Hid (allR L (J + 1) = false) := NXR.out.trans r
          clear r NX NXR
          go_wp2_with fail
          refine (HR.out _).mono ?_
          rintro e' w1 ⟨rfl, hb⟩
          obtain ⟨T0, T1, T2, T3, S0, S1, S2, S3, B0⟩ := SB.out.later hb
          clear hb SB r0 r1
          go_wp2_with fail
          refine bodyPost_ret (v := tripB (0, 0, false)) (by simp [results, Tryd.results54, go_sem, *]) rfl ⟨by rw [HF.out NX'.out], ?_⟩
          first | exact B0 | exact set2 B0 (Nat.le_refl _) _ _
        · rw [r] at HR
          have NX' : Hid (allR L (J + 1) = true) := NXR.out.trans r
          clear r NXR
          go_wp2_with fail
          refine (HR.out _).mono ?_
          rintro e' w1 ⟨rfl, hb⟩
          have SC := hideR (SB.out.later hb)
          have r0' := kc _ _ hb r0
          have r1' := kc _ _ hb r1
          have T0 := SC.out.1
          have T1 := SC.out.2.1
          dsimp only at T0 T1
          clear hb SB r0 r1
          go_wp2_with fail
          refine (HC.out _).mono ?_
          rintro e' w2 ⟨rfl, hb⟩
          have SD := hideR (SC.out.later hb)
          have r0 := kc _ _ hb r0'
          have r1 := kc _ _ hb r1'
          clear hb SC r0' r1' T0 T1
          obtain ⟨T0, T1, T2, T3, S0, S1, S2, S3, B0⟩ := SD.out
          clear B0
          dsimp only at T0 T1
          cases cc
          · have SE : Hid (SumAt w2 w T ((bestG L (-1) (J + 1 - 1)).1, (bestG L (-1) (J + 1 - 1)).2, 0)) := by
              show SumAt _ _ _ _
              rw [NX.out]
              exact SD.out
            clear NX SD HC HR
            go_wp2_with fail
            go_roundw
            case rel => exact ⟨J + 1, by omega, by go_num, NX', SE⟩
            case measure => simp [intOf]; omega
          · have SE : Hid (SumAt ((w2.setCell ⟨T, 0, none⟩ (.int .i64 u)).setCell ⟨T, 1, none⟩ (.int .i64 v)) w T ((bestG L (-1) (J + 1 - 1)).1, (bestG L (-1) (J + 1 - 1)).2, 0)) := by
              show SumAt _ _ _ _
              rw [NX.out]
              exact SD.out.put q1 u v 0
            clear NX SD HC HR
            go_wp2_with fail
            go_roundw
            case rel => exact ⟨J + 1, by omega, by go_num, NX', SE⟩
            case measure => simp [intOf]; omega
      · have e : J = m := by omega
        subst e
        have k1 : decide ((J : Int) < (J : Int)) = false := by simp
        have hp := HP.out
        subst hp
        have AY := hideR (EY.out p rfl E.out)
        obtain ⟨T0, T1, T2, T3, S0, S1, S2, S3, B0⟩ := SA.out
        rw [Nat.add_sub_cancel] at T0 T1
        have n1 : ¬ T = w.heap.size := by omega
        have n2 : ¬ w.heap.size = T := by omega
        have BB := hideR B0
        clear SA B0 E EY EN HA
        generalize bestG L (-1) p = t at *
        obtain ⟨x1, y1⟩ := t
        dsimp only at T0 T1 AY
        go_wp2_with fail
        refine bodyPost_ret (v := tripB (x1, y1, true)) (by simp [results, Tryd.results54, go_sem, *]) rfl ⟨by rw [AY.out], ?_⟩
        exact set2 BB.out (Nat.le_refl _) _ _
theorem rleast_raw (v : Value) (t : Int × Int × Bool) (w : World) (H : Hid (∀ w', Below w.heap.size w w' → Calls Tryd.prog 54 #[v, .func (.func 55) #[] #[]] w' fun e w'' => e = .returned (tripB t) ∧ Below w'.heap.size w' w'')) :
    Calls Tryd.prog 27 #[v] w fun e w' => e = .returned (tripB t) ∧ Below w.heap.size w w' := by
  obtain ⟨x, y, z⟩ := t
  have R0 := hideR (ret_start w)
  have B0 := hideR (single w (.cells #[.int .i64 0, .int .i64 0] 23))
  go_enter Tryd.func27, Tryd.ntmps27
  go_wp2_with fail
  refine (H.out _ B0.out).mono ?_
  rintro e w1 ⟨rfl, hb⟩
  obtain ⟨S0, S1, S2, S3, B1⟩ := R0.out.later hb
  clear hb
  go_wp2_with fail
  refine bodyPost_ret (v := tripB (x, y, z)) (by simp [results, Tryd.results27, go_sem, *]) rfl ⟨rfl, ?_⟩
  exact set2 B1 (Nat.le_refl _) _ _
theorem rleast_any (ad : Option Addr) (cap : Nat) (L : Rats) (w : World) (hV : RatV w ad L) (hI : RatI L) (hq : L.q ≤ 9223372036854775807) :
    Calls Tryd.prog 27 #[.slice ad L.q cap] w fun e w' => e = .returned (tripB (bestT L (-1))) ∧ Below w.heap.size w w' :=
  rleast_raw _ _ w (hideR fun w' hb => least_choose ad cap L w' (hV.later hb) hI hq)
set_option maxRecDepth 100000 in
set_option maxHeartbeats 4000000 in
theorem greatest_choose (ad : Option Addr) (cap : Nat) (L : Rats) (w : World) (hV : RatV w ad L) (hI : RatI L) (hq : L.q ≤ 9223372036854775807) :
    Calls Tryd.prog 54 #[.slice ad L.q cap, .func (.func 57) #[] #[]] w fun e w' => e = .returned (tripB (bestT L 1)) ∧ Below w.heap.size w w' := by
  have HV := hideR hV
  have HI := hideR hI
  have EZ : Hid (L.q = 0 → bestT L 1 = (0, 0, false)) := fun h => by simp [bestT, h]
  have EN : Hid (allR L L.q = false → bestT L 1 = (0, 0, false)) := fun h => by simp [bestT, h]
  have EY : Hid (∀ k, L.q = k + 1 → allR L L.q = true → bestT L 1 = ((bestG L 1 k).1, (bestG L 1 k).2, true)) := fun k h g => by
    unfold bestT
    rw [if_neg (by omega), if_pos g, h, Nat.add_sub_cancel]
  have HA : Hid (∀ k, k ≤ L.q → allR L k = false → allR L L.q = false) := fun k hk h => allR_false h _ hk
  clear hV hI
  generalize hm : L.q = m at *
  have HM := hideR hm
  clear hm
  have R0 := hideR (ret_start w)
  by_cases z : m = 0
  · subst z
    have R := hideR (EZ.out rfl)
    go_enter Tryd.func54, Tryd.ntmps54
    go_wp2_with fail
    refine bodyPost_ret (v := tripB (0, 0, false)) (by simp [results, Tryd.results54, go_sem, *]) rfl ⟨by rw [R.out], ?_⟩
    first | exact single _ _ | exact set2 (single _ _) (Nat.le_refl _) _ _
  · obtain ⟨b, off, rfl, d1, d2⟩ := HV.out 0 (by rw [HM.out]; omega)
    have d1' : w.cell? ⟨b, off, none⟩ = some (.int .i64 (L.n 0)) := by simpa using d1
    have d2' : w.cell? ⟨b, off + 1, none⟩ = some (.int .i64 (L.d 0)) := by simpa using d2
    have c1 := kc _ _ (single w (.cells #[.int .i64 0, .int .i64 0] 23)) d1'
    have c2 := kc _ _ (single w (.cells #[.int .i64 0, .int .i64 0] 23)) d2'
    have z0 : ((m : Int) == 0) = false := by simp; omega
    have z1 : (0 : Int) < (m : Int) := by omega
    obtain ⟨p, hp⟩ : ∃ p, m = p + 1 := ⟨m - 1, by omega⟩
    have HP := hideR hp
    have G0 : Hid (bestG L 1 0 = (L.n 0, L.d 0)) := rfl
    clear d1 d2 d1' d2' hp EZ z
    generalize L.n 0 = x at *
    generalize L.d 0 = y at *
    go_enter Tryd.func54, Tryd.ntmps54
    go_wp2_with fail
    have hT : (w.alloc (.cells #[.int .i64 0, .int .i64 0] 23)).heap.size = w.heap.size + 1 := by simp
    have SA := R0.out.new x y 0 23
    rw [hT] at SA
    have q1 : w.heap.size < w.heap.size + 1 := by omega
    clear R0 c1 c2 hT z0 z1
    generalize (w.alloc (.cells #[.int .i64 0, .int .i64 0] 23)).alloc (.cells #[.int .i64 x, .int .i64 y] 23) = W2 at *
    generalize w.heap.size + 1 = T at *
    have I0 : Hid (SumAt W2 w T ((bestG L 1 (0 - 1)).1, (bestG L 1 (0 - 1)).2, 0)) := by show SumAt _ _ _ _; rw [show (0 - 1 : Nat) = 0 from rfl, G0.out]; exact SA
    clear SA G0
    go_loopw [18] (fun z wr => ∃ (J : Nat), J ≤ m ∧ z = .int .i64 J ∧ Hid (allR L J = true) ∧ Hid (SumAt wr w T ((bestG L 1 (J - 1)).1, (bestG L 1 (J - 1)).2, 0))) (fun z _ => m - (intOf z).toNat)
    case atStart => exact ⟨0, by omega, rfl, rfl, I0⟩
    case round =>
      obtain ⟨J, hJ, rfl, E, SA⟩ := hrel
      clear I0
      by_cases cj : J < m
      · obtain ⟨b', off', e1, d1, d2⟩ := HV.out J (by rw [HM.out]; exact cj)
        injection e1 with e1
        injection e1 with e2 e3
        subst e2
        subst e3
        have c1 := kc _ _ SA.out.2.2.2.2.2.2.2.2 d1
        have c2 := kc _ _ SA.out.2.2.2.2.2.2.2.2 d2
        obtain ⟨i1, i2⟩ := HI.out J (by rw [HM.out]; exact cj)
        obtain ⟨i3, i4⟩ := best_i64 (s := 1) HI.out (J - 1) (by rw [HM.out]; omega)
        have HR := hideR (askR (L.n J) (L.d J) i1 i2)
        have HC : Hid (∀ w, Calls Tryd.prog 57 #[rv (L.n J) (L.d J), rv (bestG L 1 (J - 1)).1 (bestG L 1 (J - 1)).2] w fun e w' => e = .returned (.bool (decide (0 < cmpT (L.n J) (L.d J) (bestG L 1 (J - 1)).1 (bestG L 1 (J - 1)).2))) ∧ Below w.heap.size w w') := hideR fun w => greatest_is _ _ _ _ w i1 i2 i3 i4
        have NXR : Hid (allR L (J + 1) = rightR (L.n J) (L.d J)) := by show _ = _; rw [allR, E.out, Bool.true_and]
        have NX : Hid (bestG L 1 (J + 1 - 1) = if (decide (0 < cmpT (L.n J) (L.d J) (bestG L 1 (J - 1)).1 (bestG L 1 (J - 1)).2)) = true then (L.n J, L.d J) else bestG L 1 (J - 1)) := by
          show _ = _
          rw [Nat.add_sub_cancel]
          exact greatest_step L J
        have k0 : (0 : Int) ≤ (J : Int) := by omega
        have k1 : (J : Int) < (m : Int) := by omega
        have HF : Hid (allR L (J + 1) = false → bestT L 1 = (0, 0, false)) := fun h => EN.out (by have := HA.out (J + 1) (by omega) h; exact this)
        clear d1 d2 i1 i2 i3 i4
        generalize L.n J = u at *
        generalize L.d J = v at *
        generalize bestG L 1 (J - 1) = t at *
        obtain ⟨x1, y1⟩ := t
        dsimp only at SA HC NX
        generalize decide (0 < cmpT u v x1 y1) = cc at *
        go_upto_region 7 with (fail)
        have SB := hideR (SA.out.later (single wr (.cells #[.int .i64 u, .int .i64 v] 23)))
        have r0 : (wr.alloc (.cells #[.int .i64 u, .int .i64 v] 23)).cell? ⟨wr.heap.size, 0, none⟩ = some (.int .i64 u) := new_cell wr _ _ 0
        have r1 : (wr.alloc (.cells #[.int .i64 u, .int .i64 v] 23)).cell? ⟨wr.heap.size, 1, none⟩ = some (.int .i64 v) := new_cell wr _ _ 1
        have n3 : ¬ wr.heap.size = T := by have := World.block_lt_of_cell? _ _ SA.out.1; simp only at this; omega
        clear SA c1 c2
        generalize wr.alloc (.cells #[.int .i64 u, .int .i64 v] 23) = W3 at *
        generalize wr.heap.size = rb at *
        have n1 : ¬ T = w.heap.size := by omega
        have n2 : ¬ w.heap.size = T := by omega
        have n4 : ¬ T = rb := fun e => n3 e.symm
        cases r : rightR u v
        · rw [r] at HR
          have NX' : Hid (allR L (J + 1) = false) := NXR.out.trans r
          clear r NX NXR
          go_wp2_with fail
          refine (HR.out _).mono ?_
          rintro e' w1 ⟨rfl, hb⟩
          obtain ⟨T0, T1, T2, T3, S0, S1, S2, S3, B0⟩ := SB.out.later hb
          clear hb SB r0 r1
          go_wp2_with fail
          refine bodyPost_ret (v := tripB (0, 0, false)) (by simp [results, Tryd.results54, go_sem, *]) rfl ⟨by rw [HF.out NX'.out], ?_⟩
          first | exact B0 | exact set2 B0 (Nat.le_refl _) _ _
        · rw [r] at HR
          have NX' : Hid (allR L (J + 1) = true) := NXR.out.trans r
          clear r NXR
          go_wp2_with fail
          refine (HR.out _).mono ?_
          rintro e' w1 ⟨rfl, hb⟩
          have SC := hideR (SB.out.later hb)
          have r0' := kc _ _ hb r0
          have r1' := kc _ _ hb r1
          have T0 := SC.out.1
          have T1 := SC.out.2.1
          dsimp only at T0 T1
          clear hb SB r0 r1
          go_wp2_with fail
          refine (HC.out _).mono ?_
          rintro e' w2 ⟨rfl, hb⟩
          have SD := hideR (SC.out.later hb)
          have r0 := kc _ _ hb r0'
          have r1 := kc _ _ hb r1'
          clear hb SC r0' r1' T0 T1
          obtain ⟨T0, T1, T2, T3, S0, S1, S2, S3, B0⟩ := SD.out
          clear B0
          dsimp only at T0 T1
          cases cc
          · have SE : Hid (SumAt w2 w T ((bestG L 1 (J + 1 - 1)).1, (bestG L 1 (J + 1 - 1)).2, 0)) := by
              show SumAt _ _ _ _
              rw [NX.out]
              exact SD.out
            clear NX SD HC HR
            go_wp2_with fail
            go_roundw
            case rel => exact ⟨J + 1, by omega, by go_num, NX', SE⟩
            case measure => simp [intOf]; omega
          · have SE : Hid (SumAt ((w2.setCell ⟨T, 0, none⟩ (.int .i64 u)).setCell ⟨T, 1, none⟩ (.int .i64 v)) w T ((bestG L 1 (J + 1 - 1)).1, (bestG L 1 (J + 1 - 1)).2, 0)) := by
              show SumAt _ _ _ _
              rw [NX.out]
              exact SD.out.put q1 u v 0
            clear NX SD HC HR
            go_wp2_with fail
            go_roundw
            case rel => exact ⟨J + 1, by omega, by go_num, NX', SE⟩
            case measure => simp [intOf]; omega
      · have e : J = m := by omega
        subst e
        have k1 : decide ((J : Int) < (J : Int)) = false := by simp
        have hp := HP.out
        subst hp
        have AY := hideR (EY.out p rfl E.out)
        obtain ⟨T0, T1, T2, T3, S0, S1, S2, S3, B0⟩ := SA.out
        rw [Nat.add_sub_cancel] at T0 T1
        have n1 : ¬ T = w.heap.size := by omega
        have n2 : ¬ w.heap.size = T := by omega
        have BB := hideR B0
        clear SA B0 E EY EN HA
        generalize bestG L 1 p = t at *
        obtain ⟨x1, y1⟩ := t
        dsimp only at T0 T1 AY
        go_wp2_with fail
        refine bodyPost_ret (v := tripB (x1, y1, true)) (by simp [results, Tryd.results54, go_sem, *]) rfl ⟨by rw [AY.out], ?_⟩
        exact set2 BB.out (Nat.le_refl _) _ _
theorem rgreatest_raw (v : Value) (t : Int × Int × Bool) (w : World) (H : Hid (∀ w', Below w.heap.size w w' → Calls Tryd.prog 54 #[v, .func (.func 57) #[] #[]] w' fun e w'' => e = .returned (tripB t) ∧ Below w'.heap.size w' w'')) :
    Calls Tryd.prog 29 #[v] w fun e w' => e = .returned (tripB t) ∧ Below w.heap.size w w' := by
  obtain ⟨x, y, z⟩ := t
  have R0 := hideR (ret_start w)
  have B0 := hideR (single w (.cells #[.int .i64 0, .int .i64 0] 23))
  go_enter Tryd.func29, Tryd.ntmps29
  go_wp2_with fail
  refine (H.out _ B0.out).mono ?_
  rintro e w1 ⟨rfl, hb⟩
  obtain ⟨S0, S1, S2, S3, B1⟩ := R0.out.later hb
  clear hb
  go_wp2_with fail
  refine bodyPost_ret (v := tripB (x, y, z)) (by simp [results, Tryd.results29, go_sem, *]) rfl ⟨rfl, ?_⟩
  exact set2 B1 (Nat.le_refl _) _ _
theorem rgreatest_any (ad : Option Addr) (cap : Nat) (L : Rats) (w : World) (hV : RatV w ad L) (hI : RatI L) (hq : L.q ≤ 9223372036854775807) :
    Calls Tryd.prog 29 #[.slice ad L.q cap] w fun e w' => e = .returned (tripB (bestT L 1)) ∧ Below w.heap.size w w' :=
  rgreatest_raw _ _ w (hideR fun w' hb => greatest_choose ad cap L w' (hV.later hb) hI hq)
end Go.Proofs.YtnhopmoboahlgaaDoor
