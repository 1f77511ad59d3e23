/-
  The document's best of a list of fractions.
-/
import Derived.Test.YtnhopmoboahlgaaDoorYb
namespace Go.Proofs.YtnhopmoboahlgaaDoor
open Go.RowKit Go.Shelf
set_option linter.unusedVariables false
def allR (L : Rats) : Nat → Bool
  | 0 => true
  | k + 1 => allR L k && rightR (L.n k) (L.d k)
theorem allR_false {L : Rats} {k : Nat} (h : allR L k = false) : ∀ m, k ≤ m → allR L m = false := by
  intro m hm
  induction m with
  | zero => obtain rfl : k = 0 := by omega
            exact h
  | succ m ih =>
    by_cases q : k = m + 1
    · subst q; exact h
    · rw [allR, ih (by omega), Bool.false_and]
def bestG (L : Rats) (s : Int) : Nat → Int × Int
  | 0 => (L.n 0, L.d 0)
  | k + 1 => if cmpT (L.n (k + 1)) (L.d (k + 1)) (bestG L s k).1 (bestG L s k).2 = s then (L.n (k + 1), L.d (k + 1)) else bestG L s k
theorem best_i64 {L : Rats} {s : Int} (hI : RatI L) : ∀ k, k < L.q → I64 (bestG L s k).1 ∧ I64 (bestG L s k).2 := by
  intro k
  induction k with
  | zero => exact fun h => hI 0 h
  | succ k ih =>
    intro h
    rw [bestG]
    split
    · exact hI _ h
    · exact ih (by omega)
def bestT (L : Rats) (s : Int) : Int × Int × Bool := if L.q = 0 then (0, 0, false) else if allR L L.q then ((bestG L s (L.q - 1)).1, (bestG L s (L.q - 1)).2, true) else (0, 0, false)
abbrev tripB (t : Int × Int × Bool) : Value := .tuple #[rv t.1 t.2.1, .bool t.2.2]
/-- What is to be answered lies in a block. -/
def RetAt (wr w : World) : Prop := wr.cell? ⟨w.heap.size, 0, none⟩ = some (.int .i64 0) ∧ wr.cell? ⟨w.heap.size, 1, none⟩ = some (.int .i64 0) ∧ wr.frozen? ⟨w.heap.size, 0, none⟩ = false ∧ wr.frozen? ⟨w.heap.size, 1, none⟩ = false ∧ Below w.heap.size w wr
theorem RetAt.later {wr w w' : World} (h : RetAt wr w) (hb : Below wr.heap.size wr w') : RetAt w' w := by
  obtain ⟨S0, S1, S2, S3, B0⟩ := h
  exact ⟨kc _ _ hb S0, kc _ _ hb S1, kf _ _ hb S0 S2, kf _ _ hb S1 S3, beyond B0 hb⟩
theorem RetAt.new {wr w : World} (h : RetAt wr w) (x y e : Int) (T : TypeId) : SumAt (wr.alloc (.cells #[.int .i64 x, .int .i64 y] T)) w wr.heap.size (x, y, e) := by
  obtain ⟨S0, S1, S2, S3, B0⟩ := h.later (single wr (.cells #[.int .i64 x, .int .i64 y] T))
  exact ⟨new_cell wr _ _ 0, new_cell wr _ _ 1, new_frozen wr _ _ 0, new_frozen wr _ _ 1, S0, S1, S2, S3, B0⟩
theorem ret_start (w : World) : RetAt (w.alloc (.cells #[.int .i64 0, .int .i64 0] 23)) w := ⟨by simp [go_sem], by simp [go_sem], by simp [go_sem], by simp [go_sem], single _ _⟩
set_option maxRecDepth 100000 in
set_option maxHeartbeats 4000000 in
theorem ybest_any (ad : Option Addr) (cap : Nat) (L : Rats) (s : Int) (w : World) (hV : RatV w ad L) (hI : RatI L) (hq : L.q ≤ 9223372036854775807) :
    Calls Tryd.prog 56 #[.slice ad L.q cap, .int .i64 s] w fun e w' => e = .returned (tripB (bestT L s)) ∧ Below w.heap.size w w' := by
  have HV := hideR hV
  have HI := hideR hI
  have EZ : Hid (L.q = 0 → bestT L s = (0, 0, false)) := fun h => by simp [bestT, h]
  have EN : Hid (allR L L.q = false → bestT L s = (0, 0, false)) := fun h => by simp [bestT, h]
  have EY : Hid (∀ k, L.q = k + 1 → allR L L.q = true → bestT L s = ((bestG L s k).1, (bestG L s k).2, true)) := fun k h g => by
    unfold bestT
    rw [if_neg (by omega), if_pos g, h, Nat.add_sub_cancel]
  have HA : Hid (∀ k, k ≤ L.q → allR L k = false → allR L L.q = false) := fun k hk h => allR_false h _ hk
  clear hV hI
  generalize hm : L.q = m at *
  have HM := hideR hm
  clear hm
  have R0 := hideR (ret_start w)
  go_enter Tryd.func56, Tryd.ntmps56
  go_wp2_with fail
  generalize w.alloc (.cells #[.int .i64 0, .int .i64 0] 23) = W at *
  go_loopw [6] (fun z wr => ∃ (J : Nat), J ≤ m ∧ z = .int .i64 J ∧ Hid (allR L J = true) ∧ Hid (RetAt wr w)) (fun z _ => m - (intOf z).toNat)
  case atStart => exact ⟨0, by omega, rfl, rfl, R0⟩
  case round =>
    obtain ⟨J, hJ, rfl, E, RA⟩ := hrel
    clear R0
    by_cases cj : J < m
    · obtain ⟨b, off, rfl, d1, d2⟩ := HV.out J (by rw [HM.out]; exact cj)
      have c1 := kc _ _ RA.out.2.2.2.2 d1
      have c2 := kc _ _ RA.out.2.2.2.2 d2
      obtain ⟨i1, i2⟩ := HI.out J (by rw [HM.out]; exact cj)
      have HR := hideR (askY (L.n J) (L.d J) i1 i2)
      have NX : Hid (allR L (J + 1) = rightR (L.n J) (L.d J)) := by show _ = _; rw [allR, E.out, Bool.true_and]
      have k0 : (0 : Int) ≤ (J : Int) := by omega
      have k1 : (J : Int) < (m : Int) := by omega
      have HF : Hid (allR L (J + 1) = false → bestT L s = (0, 0, false)) := fun h => EN.out (by have := HA.out (J + 1) (by omega) h; exact this)
      clear d1 d2 i1 i2
      generalize L.n J = u at *
      generalize L.d J = v at *
      cases r : rightR u v
      · rw [r] at HR
        have NX' : Hid (allR L (J + 1) = false) := NX.out.trans r
        clear r NX
        go_wp2_with fail
        refine (HR.out _).mono ?_
        rintro e' w1 ⟨rfl, hb⟩
        have RB := RA.out.later hb
        obtain ⟨S0, S1, S2, S3, B0⟩ := RB
        clear hb RA c1 c2
        go_wp2_with fail
        refine bodyPost_ret (v := tripB (0, 0, false)) (by simp [results, Tryd.results56, go_sem, *]) rfl ⟨by rw [HF.out NX'.out], ?_⟩
        first | exact B0 | exact set2 B0 (Nat.le_refl _) _ _
      · rw [r] at HR
        have NX' : Hid (allR L (J + 1) = true) := NX.out.trans r
        clear r NX
        go_wp2_with fail
        refine (HR.out _).mono ?_
        rintro e' w1 ⟨rfl, hb⟩
        have RB := hideR (RA.out.later hb)
        clear hb RA c1 c2
        go_wp2_with fail
        go_roundw
        case rel => exact ⟨J + 1, by omega, by go_num, NX', RB⟩
        case measure => simp [intOf]; omega
    · have e : J = m := by omega
      subst e
      have k1 : decide ((J : Int) < (J : Int)) = false := by simp
      by_cases z : J = 0
      · subst z
        have R := hideR (EZ.out rfl)
        obtain ⟨S0, S1, S2, S3, B0⟩ := RA.out
        clear RA
        go_wp2_with fail
        refine bodyPost_ret (v := tripB (0, 0, false)) (by simp [results, Tryd.results56, go_sem, *]) rfl ⟨by rw [R.out], ?_⟩
        first | exact B0 | exact set2 B0 (Nat.le_refl _) _ _
      · obtain ⟨b, off, rfl, d1, d2⟩ := HV.out 0 (by rw [HM.out]; omega)
        have d1' : w.cell? ⟨b, off, none⟩ = some (.int .i64 (L.n 0)) := by simpa using d1
        have d2' : w.cell? ⟨b, off + 1, none⟩ = some (.int .i64 (L.d 0)) := by simpa using d2
        have c1 := kc _ _ RA.out.2.2.2.2 d1'
        have c2 := kc _ _ RA.out.2.2.2.2 d2'
        have z0 : ((J : Int) == 0) = false := by simp; omega
        have z1 : (0 : Int) < (J : Int) := by omega
        obtain ⟨p, hp⟩ : ∃ p, J = p + 1 := ⟨J - 1, by omega⟩
        have HP := hideR hp
        have AY : Hid (bestT L s = ((bestG L s p).1, (bestG L s p).2, true)) := EY.out p hp E.out
        have G0 : Hid (bestG L s 0 = (L.n 0, L.d 0)) := rfl
        clear d1 d2 d1' d2' hp E EZ EN EY HA
        generalize L.n 0 = x at *
        generalize L.d 0 = y at *
        go_wp2_with fail
        have SA := hideR (RA.out.new x y 0 23)
        have q1 : w.heap.size < wr.heap.size := World.block_lt_of_cell? _ _ RA.out.1
        have BL : b < wr.heap.size := World.block_lt_of_cell? _ _ c1
        clear RA c1 c2
        generalize wr.alloc (.cells #[.int .i64 x, .int .i64 y] 23) = W2 at *
        generalize wr.heap.size = T at *
        have I0 : Hid (SumAt W2 w T ((bestG L s 0).1, (bestG L s 0).2, 0)) := by show SumAt _ _ _ _; rw [G0.out]; exact SA.out
        clear SA G0 z0 z1 z
        go_loopw [8] (fun z wr => ∃ (I : Nat), I ≤ p ∧ z = .int .i64 ((I + 1 : Nat) : Int) ∧ Hid (SumAt wr w T ((bestG L s I).1, (bestG L s I).2, 0))) (fun z _ => p + 1 - (intOf z).toNat)
        case atStart => exact ⟨0, by omega, rfl, I0⟩
        case round =>
          obtain ⟨I, hI, rfl, SA⟩ := hrel
          clear I0
          by_cases ci : I < p
          · obtain ⟨b', off', e1, d1, d2⟩ := HV.out (I + 1) (by rw [HM.out]; have := HP.out; omega)
            injection e1 with e1
            injection e1 with e2 e3
            subst e2
            subst e3
            obtain ⟨T0, T1, T2, T3, S0, S1, S2, S3, B0⟩ := SA.out
            have c1 := kc _ _ B0 d1
            have c2 := kc _ _ B0 d2
            have HC : Hid (∀ w, Calls Tryd.prog 23 #[rv (L.n (I + 1)) (L.d (I + 1)), rv (bestG L s I).1 (bestG L s I).2] w fun e w' => e = .returned (.int .i64 (cmpT (L.n (I + 1)) (L.d (I + 1)) (bestG L s I).1 (bestG L s I).2)) ∧ Below w.heap.size w w') := by
              obtain ⟨i1, i2⟩ := HI.out (I + 1) (by rw [HM.out]; have := HP.out; omega)
              obtain ⟨i3, i4⟩ := best_i64 (s := s) HI.out I (by rw [HM.out]; have := HP.out; omega)
              exact hideR fun w => xcmp_any _ _ _ _ w i1 i2 i3 i4
            have NX : Hid (bestG L s (I + 1) = if cmpT (L.n (I + 1)) (L.d (I + 1)) (bestG L s I).1 (bestG L s I).2 = s then (L.n (I + 1), L.d (I + 1)) else bestG L s I) := rfl
            have JK : Hid (I + 1 ≤ p) := ci
            have kK : Hid (((I + 1 : Nat) : Int) < (J : Int)) := by show _ < _; have := HP.out; omega
            clear d1 d2 SA
            generalize L.n (I + 1) = u at *
            generalize L.d (I + 1) = v at *
            generalize bestG L s I = t at *
            obtain ⟨x1, y1⟩ := t
            dsimp only at T0 T1 HC NX
            generalize cmpT u v x1 y1 = cc at *
            have n1 : ¬ T = w.heap.size := by omega
            have n2 : ¬ w.heap.size = T := by omega
            generalize hK : I + 1 = K at *
            have HK := hideR hK
            have k0 : (0 : Int) ≤ (K : Int) := by omega
            have k1 : (K : Int) < (J : Int) := kK.out
            have k2 : (K : Int) ≤ 9223372036854775806 := by omega
            clear hK kK hI ci
            go_upto_region 12 with (fail)
            go_cut [42] (fun p w' => p = .bool (cc == s) ∧ w'.cell? ⟨T, 0, none⟩ = some (.int .i64 x1) ∧ w'.cell? ⟨T, 1, none⟩ = some (.int .i64 y1) ∧ w'.cell? ⟨w.heap.size, 0, none⟩ = some (.int .i64 0) ∧ w'.cell? ⟨w.heap.size, 1, none⟩ = some (.int .i64 0) ∧ w'.cell? ⟨b, off + K * 2, none⟩ = some (.int .i64 u) ∧ w'.cell? ⟨b, off + K * 2 + 1, none⟩ = some (.int .i64 v) ∧ w'.frozen? ⟨T, 0, none⟩ = false ∧ w'.frozen? ⟨T, 1, none⟩ = false ∧ w'.frozen? ⟨w.heap.size, 0, none⟩ = false ∧ w'.frozen? ⟨w.heap.size, 1, none⟩ = false ∧ Below w.heap.size w w')
            case first =>
              go_region_held3 (fun w' => w'.cell? ⟨T, 0, none⟩ = some (.int .i64 x1) ∧ w'.cell? ⟨T, 1, none⟩ = some (.int .i64 y1) ∧ w'.cell? ⟨b, off + K * 2, none⟩ = some (.int .i64 u) ∧ w'.cell? ⟨b, off + K * 2 + 1, none⟩ = some (.int .i64 v))
                (first | exact ⟨by assumption, by assumption, by assumption, by assumption⟩ | go_keep)
                (first
                  | (go_at_call 23; refine (HC.out _).mono ?_; rintro e' w' ⟨rfl, hb⟩; have v0 := kc ⟨T, 0, none⟩ (.int .i64 x1) hb (by first | assumption | with_reducible exact kc _ _ (single _ _) (by assumption) | simp [go_sem, *]); have v1 := kc ⟨T, 1, none⟩ (.int .i64 y1) hb (by first | assumption | with_reducible exact kc _ _ (single _ _) (by assumption) | simp [go_sem, *]); have v2 := kc ⟨w.heap.size, 0, none⟩ (.int .i64 0) hb (by first | assumption | with_reducible exact kc _ _ (single _ _) (by assumption) | simp [go_sem, *]); have v3 := kc ⟨w.heap.size, 1, none⟩ (.int .i64 0) hb (by first | assumption | with_reducible exact kc _ _ (single _ _) (by assumption) | simp [go_sem, *]); have v4 := kc ⟨b, off + K * 2, none⟩ (.int .i64 u) hb (by first | assumption | with_reducible exact kc _ _ (single _ _) (by assumption) | simp [go_sem, *]); have v5 := kc ⟨b, off + K * 2 + 1, none⟩ (.int .i64 v) hb (by first | assumption | with_reducible exact kc _ _ (single _ _) (by assumption) | simp [go_sem, *]); have vf0 := kf ⟨T, 0, none⟩ (.int .i64 x1) hb (by first | assumption | with_reducible exact kc _ _ (single _ _) (by assumption) | simp [go_sem, *]) (by first | assumption | with_reducible exact kf _ _ (single _ _) (by assumption) (by assumption) | simp [go_sem, *]); have vf1 := kf ⟨T, 1, none⟩ (.int .i64 y1) hb (by first | assumption | with_reducible exact kc _ _ (single _ _) (by assumption) | simp [go_sem, *]) (by first | assumption | with_reducible exact kf _ _ (single _ _) (by assumption) (by assumption) | simp [go_sem, *]); have vf2 := kf ⟨w.heap.size, 0, none⟩ (.int .i64 0) hb (by first | assumption | with_reducible exact kc _ _ (single _ _) (by assumption) | simp [go_sem, *]) (by first | assumption | with_reducible exact kf _ _ (single _ _) (by assumption) (by assumption) | simp [go_sem, *]); have vf3 := kf ⟨w.heap.size, 1, none⟩ (.int .i64 0) hb (by first | assumption | with_reducible exact kc _ _ (single _ _) (by assumption) | simp [go_sem, *]) (by first | assumption | with_reducible exact kf _ _ (single _ _) (by assumption) (by assumption) | simp [go_sem, *]); have hX := beyond (w := w) (by first | assumption | exact Below.drew (by assumption)) hb))
              all_goals go_wp2_with fail
              all_goals go_meet
              all_goals exact ⟨rfl, by assumption, by assumption, by assumption, by assumption, by assumption, by assumption, by assumption, by assumption, by assumption, by assumption, by assumption⟩
            case rest =>
              clear T0 T1 T2 T3 S0 S1 S2 S3 B0 c1 c2 HC
              obtain ⟨rfl, T0, T1, S0, S1, c1, c2, T2, T3, S2, S3, B0⟩ := hcut
              have HSA : Hid (SumAt wc w T (x1, y1, 0)) := ⟨T0, T1, T2, T3, S0, S1, S2, S3, B0⟩
              clear B0
              by_cases c : cc = s
              · have c' : (cc == s) = true := by simpa using c
                have NX' : Hid (bestG L s K = (u, v)) := by
                  show _ = _
                  rw [NX.out, if_pos c]
                have SE : Hid (SumAt ((wc.setCell ⟨T, 0, none⟩ (.int .i64 u)).setCell ⟨T, 1, none⟩ (.int .i64 v)) w T ((bestG L s K).1, (bestG L s K).2, 0)) := by
                  show SumAt _ _ _ _
                  rw [NX'.out]
                  exact HSA.out.put q1 u v 0
                clear NX NX' HSA c
                rw [c']
                go_wp2_with fail
                go_roundw
                case rel => exact ⟨K, JK.out, by go_num, SE⟩
                case measure => have := HK.out; have := JK.out; simp [intOf]; omega
              · have c' : (cc == s) = false := by simpa using c
                have NX' : Hid (bestG L s K = (x1, y1)) := by
                  show _ = _
                  rw [NX.out, if_neg c]
                have SE : Hid (SumAt wc w T ((bestG L s K).1, (bestG L s K).2, 0)) := by
                  show SumAt _ _ _ _
                  rw [NX'.out]
                  exact HSA.out
                clear NX NX' HSA c
                rw [c']
                go_wp2_with fail
                go_roundw
                case rel => exact ⟨K, JK.out, by go_num, SE⟩
                case measure => have := HK.out; have := JK.out; simp [intOf]; omega
          · have e : I = p := by omega
            subst e
            have hJ' := HP.out
            subst hJ'
            obtain ⟨T0, T1, T2, T3, S0, S1, S2, S3, B0⟩ := SA.out
            have k1 : decide (((I + 1 : Nat) : Int) < ((I + 1 : Nat) : Int)) = false := by simp
            have n1 : ¬ T = w.heap.size := by omega
            have n2 : ¬ w.heap.size = T := by omega
            have BB := hideR B0
            clear SA B0
            generalize bestG L s I = t at *
            obtain ⟨x1, y1⟩ := t
            dsimp only at T0 T1 AY
            go_wp2_with fail
            refine bodyPost_ret (v := tripB (x1, y1, true)) (by simp [results, Tryd.results56, go_sem, *]) rfl ⟨by rw [AY.out], ?_⟩
            exact set2 BB.out (Nat.le_refl _) _ _
theorem yleast_raw (v : Value) (t : Int × Int × Bool) (w : World) (H : Hid (∀ w', Below w.heap.size w w' → Calls Tryd.prog 56 #[v, .int .i64 (-1)] w' fun e w'' => e = .returned (tripB t) ∧ Below w'.heap.size w' w'')) :
    Calls Tryd.prog 28 #[v] w fun e w' => e = .returned (tripB t) ∧ Below w.heap.size w w' := by
  obtain ⟨x, y, z⟩ := t
  have R0 := hideR (ret_start w)
  have B0 := hideR (single w (.cells #[.int .i64 0, .int .i64 0] 23))
  go_enter Tryd.func28, Tryd.ntmps28
  go_wp2_with fail
  refine (H.out _ B0.out).mono ?_
  rintro e w1 ⟨rfl, hb⟩
  obtain ⟨S0, S1, S2, S3, B1⟩ := R0.out.later hb
  clear hb
  go_wp2_with fail
  refine bodyPost_ret (v := tripB (x, y, z)) (by simp [results, Tryd.results28, go_sem, *]) rfl ⟨rfl, ?_⟩
  exact set2 B1 (Nat.le_refl _) _ _
theorem ygreatest_raw (v : Value) (t : Int × Int × Bool) (w : World) (H : Hid (∀ w', Below w.heap.size w w' → Calls Tryd.prog 56 #[v, .int .i64 1] w' fun e w'' => e = .returned (tripB t) ∧ Below w'.heap.size w' w'')) :
    Calls Tryd.prog 30 #[v] w fun e w' => e = .returned (tripB t) ∧ Below w.heap.size w w' := by
  obtain ⟨x, y, z⟩ := t
  have R0 := hideR (ret_start w)
  have B0 := hideR (single w (.cells #[.int .i64 0, .int .i64 0] 23))
  go_enter Tryd.func30, Tryd.ntmps30
  go_wp2_with fail
  refine (H.out _ B0.out).mono ?_
  rintro e w1 ⟨rfl, hb⟩
  obtain ⟨S0, S1, S2, S3, B1⟩ := R0.out.later hb
  clear hb
  go_wp2_with fail
  refine bodyPost_ret (v := tripB (x, y, z)) (by simp [results, Tryd.results30, go_sem, *]) rfl ⟨rfl, ?_⟩
  exact set2 B1 (Nat.le_refl _) _ _
theorem yleast_any (ad : Option Addr) (cap : Nat) (L : Rats) (w : World) (hV : RatV w ad L) (hI : RatI L) (hq : L.q ≤ 9223372036854775807) :
    Calls Tryd.prog 28 #[.slice ad L.q cap] w fun e w' => e = .returned (tripB (bestT L (-1))) ∧ Below w.heap.size w w' :=
  yleast_raw _ _ w (hideR fun w' hb => ybest_any ad cap L (-1) w' (hV.later hb) hI hq)
theorem ygreatest_any (ad : Option Addr) (cap : Nat) (L : Rats) (w : World) (hV : RatV w ad L) (hI : RatI L) (hq : L.q ≤ 9223372036854775807) :
    Calls Tryd.prog 30 #[.slice ad L.q cap] w fun e w' => e = .returned (tripB (bestT L 1)) ∧ Below w.heap.size w w' :=
  ygreatest_raw _ _ w (hideR fun w' hb => ybest_any ad cap L 1 w' (hV.later hb) hI hq)
end Go.Proofs.YtnhopmoboahlgaaDoor
