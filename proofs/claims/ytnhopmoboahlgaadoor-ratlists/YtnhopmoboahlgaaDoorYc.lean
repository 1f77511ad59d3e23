/-
  The document's Sum of a list of fractions.
-/
import Derived.Test.YtnhopmoboahlgaaDoorYb
namespace Go.Proofs.YtnhopmoboahlgaaDoor
open Go.RowKit Go.Shelf
set_option linter.unusedVariables false
set_option maxRecDepth 100000 in
set_option maxHeartbeats 4000000 in
theorem ysum_none (ad : Option Addr) (cap : Nat) (w : World) :
    Calls Tryd.prog 26 #[.slice ad 0 cap] w fun e w' => e = .returned (trip (0, 1, 0)) ∧ Below w.heap.size w w' := by
  go_enter Tryd.func26, Tryd.ntmps26
  go_wp2_with fail
  have hB := single w (.cells #[.int .i64 0, .int .i64 0] 23)
  refine bodyPost_ret (v := trip (0, 1, 0)) (by simp [results, Tryd.results26, go_sem, *]) rfl ⟨rfl, ?_⟩
  first | exact single _ _ | exact hB | exact set2 hB (Nat.le_refl _) _ _
set_option maxRecDepth 100000 in
set_option maxHeartbeats 4000000 in
theorem ysum_wrong (b off cap m : Nat) (x y : Int) (w : World) (hq : 0 < m) (c1 : w.cell? ⟨b, off, none⟩ = some (.int .i64 x)) (c2 : w.cell? ⟨b, off + 1, none⟩ = some (.int .i64 y)) (HR : Hid (AskY x y false)) :
    Calls Tryd.prog 26 #[.slice (some ⟨b, off, none⟩) m cap] w fun e w' => e = .returned (trip (0, 0, 7)) ∧ Below w.heap.size w w' := by
  have m0 : ¬ (m : Int) = 0 := by omega
  have m1 : (0 : Int) < (m : Int) := by omega
  have k1 := kc ⟨b, off, none⟩ (.int .i64 x) (single w (.cells #[.int .i64 0, .int .i64 0] 23)) c1
  have k2 := kc ⟨b, off + 1, none⟩ (.int .i64 y) (single w (.cells #[.int .i64 0, .int .i64 0] 23)) c2
  go_enter Tryd.func26, Tryd.ntmps26
  go_wp2_with fail
  refine (HR.out _).mono ?_
  rintro e w1 ⟨rfl, hb⟩
  have s0 := kc ⟨w.heap.size, 0, none⟩ (.int .i64 0) hb (by simp [go_sem])
  have s1 := kc ⟨w.heap.size, 1, none⟩ (.int .i64 0) hb (by simp [go_sem])
  have s2 := kf ⟨w.heap.size, 0, none⟩ (.int .i64 0) hb (by simp [go_sem]) (by simp [go_sem])
  have s3 := kf ⟨w.heap.size, 1, none⟩ (.int .i64 0) hb (by simp [go_sem]) (by simp [go_sem])
  have hB := beyond (single w _) hb
  clear hb
  go_wp2_with fail
  refine bodyPost_ret (v := trip (0, 0, 7)) (by simp [results, Tryd.results26, go_sem, *]) rfl ⟨rfl, ?_⟩
  first | exact single _ _ | exact hB | exact set2 hB (Nat.le_refl _) _ _
set_option maxRecDepth 100000 in
set_option maxHeartbeats 4000000 in
theorem ysum_main (b off cap m : Nat) (L : Rats) (w : World) (hm : L.q = m + 1) (hV : RatV w (some ⟨b, off, none⟩) L) (hI : RatI L) (hr : rightR (L.n 0) (L.d 0) = true) (hq : m + 1 ≤ 9223372036854775807) :
    Calls Tryd.prog 26 #[.slice (some ⟨b, off, none⟩) ((m + 1 : Nat)) cap] w fun e w' => e = .returned (trip (sumG L m)) ∧ Below w.heap.size w w' := by
  have c1 : w.cell? ⟨b, off, none⟩ = some (.int .i64 (L.n 0)) := by
    obtain ⟨b', off', e, h1, h2⟩ := hV 0 (by omega)
    injection e with e; injection e with e1 e2; subst e1; subst e2
    simpa using h1
  have c2 : w.cell? ⟨b, off + 1, none⟩ = some (.int .i64 (L.d 0)) := by
    obtain ⟨b', off', e, h1, h2⟩ := hV 0 (by omega)
    injection e with e; injection e with e1 e2; subst e1; subst e2
    simpa using h2
  have RW : Hid (∀ J, J < m → w.cell? ⟨b, off + (J + 1) * 2, none⟩ = some (.int .i64 (L.n (J + 1))) ∧ w.cell? ⟨b, off + (J + 1) * 2 + 1, none⟩ = some (.int .i64 (L.d (J + 1)))) := fun J hJ => by
    obtain ⟨b', off', e, h1, h2⟩ := hV (J + 1) (by omega)
    injection e with e; injection e with e1 e2; subst e1; subst e2
    exact ⟨h1, h2⟩
  have HR : Hid (AskY (L.n 0) (L.d 0) true) := by
    show AskY _ _ _
    have h := askY (L.n 0) (L.d 0) (hI 0 (by omega)).1 (hI 0 (by omega)).2
    rw [hr] at h
    exact h
  have HI : Hid (RatI L) := hI
  have HM : Hid (L.q = m + 1) := hm
  have G0 : Hid ((sumG L 0) = (L.n 0, L.d 0, 0)) := rfl
  clear hV hI hm hr
  have k1 := kc ⟨b, off, none⟩ (.int .i64 (L.n 0)) (single w (.cells #[.int .i64 0, .int .i64 0] 23)) c1
  have k2 := kc ⟨b, off + 1, none⟩ (.int .i64 (L.d 0)) (single w (.cells #[.int .i64 0, .int .i64 0] 23)) c2
  have BL : b < w.heap.size := World.block_lt_of_cell? _ _ c1
  generalize L.n 0 = x at *
  generalize L.d 0 = y at *
  generalize hM : m + 1 = M at *
  have HN := hideR hM
  have m0 : ((M : Int) == 0) = false := by simp; omega
  have mm : M - 1 = m := by omega
  have m1 : (0 : Int) < (M : Int) := by omega
  have m2 : (1 : Int) ≤ (M : Int) := by omega
  clear c1 c2 hM
  go_enter Tryd.func26, Tryd.ntmps26
  go_wp2_with fail
  refine (HR.out _).mono ?_
  rintro e w1 ⟨rfl, hb⟩
  have s0 := kc ⟨w.heap.size, 0, none⟩ (.int .i64 0) hb (by simp [go_sem])
  have s1 := kc ⟨w.heap.size, 1, none⟩ (.int .i64 0) hb (by simp [go_sem])
  have s2 := kf ⟨w.heap.size, 0, none⟩ (.int .i64 0) hb (by simp [go_sem]) (by simp [go_sem])
  have s3 := kf ⟨w.heap.size, 1, none⟩ (.int .i64 0) hb (by simp [go_sem]) (by simp [go_sem])
  have l1 := kc _ _ hb k1
  have l2 := kc _ _ hb k2
  have hB := beyond (single w _) hb
  clear hb k1 k2
  go_wp2_with fail
  have T0 : (w1.alloc (.cells #[.int .i64 x, .int .i64 y] 23)).cell? ⟨w1.heap.size, 0, none⟩ = some (.int .i64 x) := new_cell w1 _ _ 0
  have T1 : (w1.alloc (.cells #[.int .i64 x, .int .i64 y] 23)).cell? ⟨w1.heap.size, 1, none⟩ = some (.int .i64 y) := new_cell w1 _ _ 1
  have T2 : (w1.alloc (.cells #[.int .i64 x, .int .i64 y] 23)).frozen? ⟨w1.heap.size, 0, none⟩ = false := new_frozen w1 _ _ 0
  have T3 : (w1.alloc (.cells #[.int .i64 x, .int .i64 y] 23)).frozen? ⟨w1.heap.size, 1, none⟩ = false := new_frozen w1 _ _ 1
  have S0 : (w1.alloc (.cells #[.int .i64 x, .int .i64 y] 23)).cell? ⟨w.heap.size, 0, none⟩ = some (.int .i64 0) := kc _ _ (single _ _) s0
  have S1 : (w1.alloc (.cells #[.int .i64 x, .int .i64 y] 23)).cell? ⟨w.heap.size, 1, none⟩ = some (.int .i64 0) := kc _ _ (single _ _) s1
  have S2 : (w1.alloc (.cells #[.int .i64 x, .int .i64 y] 23)).frozen? ⟨w.heap.size, 0, none⟩ = false := kf _ _ (single _ _) s0 s2
  have S3 : (w1.alloc (.cells #[.int .i64 x, .int .i64 y] 23)).frozen? ⟨w.heap.size, 1, none⟩ = false := kf _ _ (single _ _) s1 s3
  have B0 : Below w.heap.size w (w1.alloc (.cells #[.int .i64 x, .int .i64 y] 23)) := beyond hB (single _ _)
  have q1 : w.heap.size < w1.heap.size := World.block_lt_of_cell? _ _ s0
  clear s0 s1 s2 s3 l1 l2 hB
  generalize w1.alloc (.cells #[.int .i64 x, .int .i64 y] 23) = W1 at *
  generalize w1.heap.size = T at *
  have I0 : Hid (SumAt W1 w T (sumG L 0)) := by
    show SumAt _ _ _ _
    rw [G0.out]
    exact ⟨T0, T1, T2, T3, S0, S1, S2, S3, B0⟩
  have I1 : Hid ((sumG L 0).2.2 = 0) := by show _ = _; rw [G0.out]
  clear T0 T1 T2 T3 S0 S1 S2 S3 B0 G0 HR m0 m1 m2
  go_loopw [5] (fun s wr => ∃ (J : Nat), J ≤ m ∧ s = .int .i64 ((J + 1 : Nat) : Int) ∧ Hid ((sumG L J).2.2 = 0) ∧ Hid (SumAt wr w T (sumG L J))) (fun s _ => m + 1 - (intOf s).toNat)
  case atStart => exact ⟨0, by omega, rfl, I1, I0⟩
  case round =>
    obtain ⟨J, hJ, rfl, E, SA⟩ := hrel
    clear I0 I1
    by_cases cj : J < m
    · obtain ⟨d1, d2⟩ := RW.out J cj
      have SA' := SA.out
      obtain ⟨T0, T1, T2, T3, S0, S1, S2, S3, B0⟩ := SA'
      have c1 := kc _ _ B0 d1
      have c2 := kc _ _ B0 d2
      have HA : Hid (∀ w, Calls Tryd.prog 15 #[rv (sumG L J).1 (sumG L J).2.1, rv (L.n (J + 1)) (L.d (J + 1))] w fun e w' => e = .returned (trip (addT (sumG L J).1 (sumG L J).2.1 (L.n (J + 1)) (L.d (J + 1)))) ∧ Below w.heap.size w w') := by
        obtain ⟨i1, i2⟩ := sum_i64 HI.out J (by have := HM.out; have := HN.out; omega) E.out
        obtain ⟨i3, i4⟩ := HI.out (J + 1) (by have := HM.out; have := HN.out; omega)
        exact hideR fun w => xadd_any _ _ _ _ w i1 i2 i3 i4
      have NX : Hid (sumG L (J + 1) = (if (addT (sumG L J).1 (sumG L J).2.1 (L.n (J + 1)) (L.d (J + 1))).2.2 = 0 then addT (sumG L J).1 (sumG L J).2.1 (L.n (J + 1)) (L.d (J + 1)) else (0, 0, (addT (sumG L J).1 (sumG L J).2.1 (L.n (J + 1)) (L.d (J + 1))).2.2))) := by
        show _ = _
        rw [sumG, if_pos E.out]
      have ST : Hid (¬ (sumG L (J + 1)).2.2 = 0 → sumG L m = sumG L (J + 1)) := fun h => sum_stay h m (by omega)
      have JK : Hid (J + 1 ≤ m) := cj
      clear d1 d2 SA E RW
      generalize L.n (J + 1) = u at *
      generalize L.d (J + 1) = v at *
      generalize addT (sumG L J).1 (sumG L J).2.1 u v = s at *
      generalize sumG L J = t at *
      obtain ⟨x1, y1, e1⟩ := t
      obtain ⟨x2, y2, e2⟩ := s
      dsimp only at T0 T1 HA NX
      have kT0 : T < wr.heap.size := World.block_lt_of_cell? _ _ T0
      have kT : ¬ wr.heap.size = T := by omega
      have kW : w.heap.size < wr.heap.size := World.block_lt_of_cell? _ _ S0
      have kS : ¬ wr.heap.size = w.heap.size := by omega
      have kB : ¬ wr.heap.size = b := by omega
      have n1 : ¬ T = w.heap.size := by omega
      have kK : Hid (((J + 1 : Nat) : Int) < (M : Int)) := by show _ < _; have := HN.out; omega
      have kR : Hid (J + 1 + 1 = J + 1 + 1) := rfl
      generalize hK : J + 1 = K at *
      have HK := hideR hK
      have k0 : (0 : Int) ≤ (K : Int) := by omega
      have k1 : (K : Int) < (M : Int) := kK.out
      have k2 : (K : Int) ≤ 9223372036854775806 := by omega
      clear hK kK kR hJ cj
      go_upto_region 9 with (fail)
      go_cut [6, 7] (fun p q w' => ∃ nb : Nat, p = .pointer (some ⟨nb, 0, none⟩) ∧ q = .int .i64 e2 ∧ w'.cell? ⟨nb, 0, none⟩ = some (.int .i64 x2) ∧ w'.cell? ⟨nb, 1, none⟩ = some (.int .i64 y2) ∧ w'.cell? ⟨T, 0, none⟩ = some (.int .i64 x1) ∧ w'.cell? ⟨T, 1, none⟩ = some (.int .i64 y1) ∧ w'.frozen? ⟨T, 0, none⟩ = false ∧ w'.frozen? ⟨T, 1, none⟩ = false ∧ w'.cell? ⟨w.heap.size, 0, none⟩ = some (.int .i64 0) ∧ w'.cell? ⟨w.heap.size, 1, none⟩ = some (.int .i64 0) ∧ w'.frozen? ⟨w.heap.size, 0, none⟩ = false ∧ w'.frozen? ⟨w.heap.size, 1, none⟩ = false ∧ Below w.heap.size w w')
      case first =>
        go_region_held3 (fun w' => w'.cell? ⟨T, 0, none⟩ = some (.int .i64 x1) ∧ w'.cell? ⟨T, 1, none⟩ = some (.int .i64 y1) ∧ w'.cell? ⟨b, off + K * 2, none⟩ = some (.int .i64 u) ∧ w'.cell? ⟨b, off + K * 2 + 1, none⟩ = some (.int .i64 v))
          (first | exact ⟨by assumption, by assumption, by assumption, by assumption⟩ | go_keep)
          (first
            | (go_at_call 15; refine (HA.out _).mono ?_; rintro e' w' ⟨rfl, hb⟩; have v0 := kc ⟨T, 0, none⟩ (.int .i64 x1) hb (by first | assumption | with_reducible exact kc _ _ (single _ _) (by assumption) | simp [go_sem, *]); have v1 := kc ⟨T, 1, none⟩ (.int .i64 y1) hb (by first | assumption | with_reducible exact kc _ _ (single _ _) (by assumption) | simp [go_sem, *]); have v2 := kc ⟨w.heap.size, 0, none⟩ (.int .i64 0) hb (by first | assumption | with_reducible exact kc _ _ (single _ _) (by assumption) | simp [go_sem, *]); have v3 := kc ⟨w.heap.size, 1, none⟩ (.int .i64 0) hb (by first | assumption | with_reducible exact kc _ _ (single _ _) (by assumption) | simp [go_sem, *]); have v4 := kc ⟨b, off + K * 2, none⟩ (.int .i64 u) hb (by first | assumption | with_reducible exact kc _ _ (single _ _) (by assumption) | simp [go_sem, *]); have v5 := kc ⟨b, off + K * 2 + 1, none⟩ (.int .i64 v) hb (by first | assumption | with_reducible exact kc _ _ (single _ _) (by assumption) | simp [go_sem, *]); have vf0 := kf ⟨T, 0, none⟩ (.int .i64 x1) hb (by first | assumption | with_reducible exact kc _ _ (single _ _) (by assumption) | simp [go_sem, *]) (by first | assumption | with_reducible exact kf _ _ (single _ _) (by assumption) (by assumption) | simp [go_sem, *]); have vf1 := kf ⟨T, 1, none⟩ (.int .i64 y1) hb (by first | assumption | with_reducible exact kc _ _ (single _ _) (by assumption) | simp [go_sem, *]) (by first | assumption | with_reducible exact kf _ _ (single _ _) (by assumption) (by assumption) | simp [go_sem, *]); have vf2 := kf ⟨w.heap.size, 0, none⟩ (.int .i64 0) hb (by first | assumption | with_reducible exact kc _ _ (single _ _) (by assumption) | simp [go_sem, *]) (by first | assumption | with_reducible exact kf _ _ (single _ _) (by assumption) (by assumption) | simp [go_sem, *]); have vf3 := kf ⟨w.heap.size, 1, none⟩ (.int .i64 0) hb (by first | assumption | with_reducible exact kc _ _ (single _ _) (by assumption) | simp [go_sem, *]) (by first | assumption | with_reducible exact kf _ _ (single _ _) (by assumption) (by assumption) | simp [go_sem, *]); (first | (with_reducible (have zz := newPairR hb); obtain ⟨z0, z1, q0, q1, q2, q3⟩ := zz) | (with_reducible (have zz := newPairRD hb); obtain ⟨z0, z1, q0, q1, q2, q3⟩ := zz) | (with_reducible (have zz := newPairRI hb); obtain ⟨z0, z1, q0, q1, q2, q3⟩ := zz) | skip); have hX := beyond (w := w) (by first | assumption | exact Below.drew (by assumption) | exact Below.alloc (by assumption) (Below.size (by assumption)) _ | exact Below.alloc (Below.drew (by assumption)) (Below.size (by assumption)) _ | exact Below.drew (Below.alloc (by assumption) (Below.size (by assumption)) _)) hb; have lT : T < w'.heap.size := World.block_lt_of_cell? _ _ v0; have nT : ¬ w'.heap.size = T := (by omega); have lS : w.heap.size < w'.heap.size := World.block_lt_of_cell? _ _ v2; have nS : ¬ w'.heap.size = w.heap.size := (by omega)))
        all_goals go_wp2_with fail
        all_goals go_meet
        all_goals refine ⟨_, rfl, rfl, ?_, ?_, ?_, ?_, ?_, ?_, ?_, ?_, ?_, ?_, ?_⟩
        all_goals first | with_reducible assumption | with_reducible exact set_other (by assumption) (by assumption) | with_reducible exact set_fz (by assumption) | with_reducible exact kc _ _ (single _ _) (by assumption) | with_reducible exact kf _ _ (single _ _) (by assumption) (by assumption) | (simp [go_sem]; done) | (simp [go_sem, *]; done) | exact Below.alloc (by assumption) (Below.size (by assumption)) _ | exact set2 (by assumption) (Nat.le_of_lt (by assumption)) _ _ | omega | skip
      case rest =>
        clear T0 T1 T2 T3 S0 S1 S2 S3 B0 c1 c2 HA kT0 kT kS kB kW
        obtain ⟨nb, rfl, rfl, r0, r1, T0, T1, T2, T3, S0, S1, S2, S3, B0⟩ := hcut
        have HSD : Hid (SumAt wc w T (x1, y1, e1)) := ⟨T0, T1, T2, T3, S0, S1, S2, S3, B0⟩
        have BB := hideR B0
        clear B0
        by_cases c : e2 = 0
        · subst c
          have NX' : Hid (sumG L K = (x2, y2, 0)) := by
            show _ = _
            rw [NX.out, if_pos rfl]
          have SE : Hid (SumAt ((wc.setCell ⟨T, 0, none⟩ (.int .i64 x2)).setCell ⟨T, 1, none⟩ (.int .i64 y2)) w T (sumG L K)) := by
            show SumAt _ _ _ _
            rw [NX'.out]
            exact HSD.out.put q1 x2 y2 0
          have EE : Hid ((sumG L K).2.2 = 0) := by show _ = _; rw [NX'.out]
          clear NX NX' HSD ST BB
          go_wp2_with fail
          go_roundw
          case rel => exact ⟨K, JK.out, by go_num, EE, SE⟩
          case measure => have := HK.out; have := JK.out; simp [intOf]; omega
        · have NX' : Hid (sumG L K = (0, 0, e2)) := by
            show _ = _
            rw [NX.out, if_neg c]
          have R : Hid (sumG L m = (0, 0, e2)) := by
            show _ = _
            rw [ST.out (by rw [NX'.out]; exact c), NX'.out]
          have c' : (e2 == 0) = false := by simpa using c
          clear NX NX' HSD ST
          go_wp2_with fail
          refine bodyPost_ret (v := trip (0, 0, e2)) (by simp [results, Tryd.results26, go_sem, *]) rfl ⟨by rw [R.out], ?_⟩
          first | exact BB.out | exact set2 BB.out (Nat.le_refl _) _ _
    · have e : J = m := by omega
      subst e
      obtain ⟨T0, T1, T2, T3, S0, S1, S2, S3, B0⟩ := SA.out
      have hM := HN.out
      subst hM
      have k1 : decide (((J + 1 : Nat) : Int) < ((J + 1 : Nat) : Int)) = false := by simp
      have z := E.out
      have n1 : ¬ T = w.heap.size := by omega
      have n2 : ¬ w.heap.size = T := by omega
      have BB := hideR B0
      clear E SA B0
      generalize ht : sumG L J = t at *
      have HT := hideR ht
      clear ht
      obtain ⟨x1, y1, e1⟩ := t
      dsimp only at T0 T1 z
      subst z
      go_wp2_with fail
      refine bodyPost_ret (v := trip (x1, y1, 0)) (by simp [results, Tryd.results26, go_sem, *]) rfl ⟨by rw [HT.out], ?_⟩
      exact set2 BB.out (Nat.le_refl _) _ _
theorem ylist_any (ad : Option Addr) (cap : Nat) (L : Rats) (w : World) (hV : RatV w ad L) (hI : RatI L) (hq : L.q ≤ 9223372036854775807) :
    Calls Tryd.prog 26 #[.slice ad L.q cap] w fun e w' => e = .returned (trip (sumT L)) ∧ Below w.heap.size w w' := by
  by_cases z : L.q = 0
  · have e : sumT L = (0, 1, 0) := by simp [sumT, z]
    rw [e, z]
    exact ysum_none _ cap w
  · obtain ⟨m, hm⟩ : ∃ m, L.q = m + 1 := ⟨L.q - 1, by omega⟩
    obtain ⟨b, off, rfl, h1, h2⟩ := hV 0 (by omega)
    cases r : rightR (L.n 0) (L.d 0)
    · have e : sumT L = (0, 0, 7) := by simp [sumT, z, r]
      rw [e]
      have h := askY (L.n 0) (L.d 0) (hI 0 (by omega)).1 (hI 0 (by omega)).2
      rw [r] at h
      exact ysum_wrong _ _ cap L.q _ _ w (by omega) (by simpa using h1) (by simpa using h2) h
    · have e : sumT L = sumG L m := by simp [sumT, r, hm]
      rw [e, hm]
      exact ysum_main b off cap m L w hm hV hI r (by omega)
end Go.Proofs.YtnhopmoboahlgaaDoor
