/-
  rat.Sum: the sum of a list of fractions.
-/
import Derived.Test.YtnhopmoboahlgaaDoorYa
namespace Go.Proofs.YtnhopmoboahlgaaDoor
open Go.RowKit Go.Shelf
set_option linter.unusedVariables false
def sumG (L : Rats) : Nat → Int × Int × Int
  | 0 => (L.n 0, L.d 0, 0)
  | k + 1 => if (sumG L k).2.2 = 0 then (if (addT (sumG L k).1 (sumG L k).2.1 (L.n (k + 1)) (L.d (k + 1))).2.2 = 0 then addT (sumG L k).1 (sumG L k).2.1 (L.n (k + 1)) (L.d (k + 1)) else (0, 0, (addT (sumG L k).1 (sumG L k).2.1 (L.n (k + 1)) (L.d (k + 1))).2.2)) else sumG L k
theorem sum_stay {L : Rats} {k : Nat} (h : ¬ (sumG L k).2.2 = 0) : ∀ m, k ≤ m → sumG L m = sumG L k := by
  intro m hm
  induction m with
  | zero => obtain rfl : k = 0 := by omega
            rfl
  | succ m ih =>
    by_cases q : k = m + 1
    · subst q; rfl
    · have e := ih (by omega)
      rw [sumG, e, if_neg h]
def sumT (L : Rats) : Int × Int × Int := if L.q = 0 then (0, 1, 0) else if rightR (L.n 0) (L.d 0) then sumG L (L.q - 1) else (0, 0, 7)
theorem add_i64 (an ad bn bd : Int) (h : (addT an ad bn bd).2.2 = 0) : I64 (addT an ad bn bd).1 ∧ I64 (addT an ad bn bd).2.1 := by
  unfold addT at *
  split at h
  · rename_i c
    rw [if_pos c]
    have c' : rightR an ad = true ∧ rightR bn bd = true := by simpa using c
    obtain ⟨r, -, x0, x1, y1⟩ := can_ok (Int.mul_pos (right_iff.1 c'.1).1 (right_iff.1 c'.2).1) h
    have := (right_iff.1 r).1
    exact ⟨⟨x0, x1⟩, by omega, y1⟩
  · cases h
theorem sum_i64 {L : Rats} (hI : RatI L) : ∀ k, k < L.q → (sumG L k).2.2 = 0 → I64 (sumG L k).1 ∧ I64 (sumG L k).2.1 := by
  intro k hk h
  cases k with
  | zero => exact hI 0 hk
  | succ k =>
    rw [sumG] at h ⊢
    by_cases c : (sumG L k).2.2 = 0
    · rw [if_pos c] at h ⊢
      by_cases e : (addT (sumG L k).1 (sumG L k).2.1 (L.n (k + 1)) (L.d (k + 1))).2.2 = 0
      · rw [if_pos e]
        exact add_i64 _ _ _ _ e
      · rw [if_neg e] at h
        exact absurd h e
    · rw [if_neg c] at h
      exact absurd h c
/-- The sum so far lies in a block, what is to be answered in another one. -/
def SumAt (wr w : World) (T : Nat) (t : Int × Int × Int) : Prop := wr.cell? ⟨T, 0, none⟩ = some (.int .i64 t.1) ∧ wr.cell? ⟨T, 1, none⟩ = some (.int .i64 t.2.1) ∧ wr.frozen? ⟨T, 0, none⟩ = false ∧ wr.frozen? ⟨T, 1, none⟩ = false ∧ wr.cell? ⟨w.heap.size, 0, none⟩ = some (.int .i64 0) ∧ wr.cell? ⟨w.heap.size, 1, none⟩ = some (.int .i64 0) ∧ wr.frozen? ⟨w.heap.size, 0, none⟩ = false ∧ wr.frozen? ⟨w.heap.size, 1, none⟩ = false ∧ Below w.heap.size w wr
theorem SumAt.later {wr w w' : World} {T : Nat} {t : Int × Int × Int} (h : SumAt wr w T t) (hb : Below wr.heap.size wr w') : SumAt w' w T t := by
  obtain ⟨T0, T1, T2, T3, S0, S1, S2, S3, B0⟩ := h
  exact ⟨kc _ _ hb T0, kc _ _ hb T1, kf _ _ hb T0 T2, kf _ _ hb T1 T3, kc _ _ hb S0, kc _ _ hb S1, kf _ _ hb S0 S2, kf _ _ hb S1 S3, beyond B0 hb⟩
theorem SumAt.put {wr w : World} {T : Nat} {t : Int × Int × Int} (h : SumAt wr w T t) (hT : w.heap.size < T) (x y e : Int) : SumAt ((wr.setCell ⟨T, 0, none⟩ (.int .i64 x)).setCell ⟨T, 1, none⟩ (.int .i64 y)) w T (x, y, e) := by
  obtain ⟨T0, T1, T2, T3, S0, S1, S2, S3, B0⟩ := h
  have n1 : ¬ T = w.heap.size := by omega
  exact ⟨by simp [go_sem, *], by simp [go_sem, *], set_fz T2, set_fz T3, set_other S0 n1, set_other S1 n1, set_fz S2, set_fz S3, set2 B0 (by omega) _ _⟩
set_option maxRecDepth 100000 in
set_option maxHeartbeats 4000000 in
theorem rsum_none (ad : Option Addr) (cap : Nat) (w : World) :
    Calls Tryd.prog 25 #[.slice ad 0 cap] w fun e w' => e = .returned (trip (0, 1, 0)) ∧ Below w.heap.size w w' := by
  go_enter Tryd.func25, Tryd.ntmps25
  go_wp2_with fail
  refine (whole_any 0 _).mono ?_
  rintro e w1 ⟨rfl, hb⟩
  have s0 := kc ⟨w.heap.size, 0, none⟩ (.int .i64 0) hb (by simp [go_sem])
  have s1 := kc ⟨w.heap.size, 1, none⟩ (.int .i64 0) hb (by simp [go_sem])
  have s2 := kf ⟨w.heap.size, 0, none⟩ (.int .i64 0) hb (by simp [go_sem]) (by simp [go_sem])
  have s3 := kf ⟨w.heap.size, 1, none⟩ (.int .i64 0) hb (by simp [go_sem]) (by simp [go_sem])
  have hB := beyond (single w _) hb
  clear hb
  go_wp2_with fail
  refine bodyPost_ret (v := trip (0, 1, 0)) (by simp [results, Tryd.results25, go_sem, *]) rfl ⟨rfl, ?_⟩
  first | exact hB | exact set2 hB (Nat.le_refl _) _ _
set_option maxRecDepth 100000 in
set_option maxHeartbeats 4000000 in
theorem rsum_wrong (b off cap m : Nat) (x y : Int) (w : World) (hq : 0 < m) (c1 : w.cell? ⟨b, off, none⟩ = some (.int .i64 x)) (c2 : w.cell? ⟨b, off + 1, none⟩ = some (.int .i64 y)) (HR : Hid (AskR x y false)) :
    Calls Tryd.prog 25 #[.slice (some ⟨b, off, none⟩) m cap] w fun e w' => e = .returned (trip (0, 0, 7)) ∧ Below w.heap.size w w' := by
  have m0 : ¬ (m : Int) = 0 := by omega
  have m1 : (0 : Int) < (m : Int) := by omega
  have k1 := kc ⟨b, off, none⟩ (.int .i64 x) (single w (.cells #[.int .i64 0, .int .i64 0] 23)) c1
  have k2 := kc ⟨b, off + 1, none⟩ (.int .i64 y) (single w (.cells #[.int .i64 0, .int .i64 0] 23)) c2
  go_enter Tryd.func25, Tryd.ntmps25
  go_wp2_with fail
  refine (HR.out _).mono ?_
  rintro e w1 ⟨rfl, hb⟩
  have s0 := kc ⟨w.heap.size, 0, none⟩ (.int .i64 0) hb (by simp [go_sem])
  have s1 := kc ⟨w.heap.size, 1, none⟩ (.int .i64 0) hb (by simp [go_sem])
  have s2 := kf ⟨w.heap.size, 0, none⟩ (.int .i64 0) hb (by simp [go_sem]) (by simp [go_sem])
  have s3 := kf ⟨w.heap.size, 1, none⟩ (.int .i64 0) hb (by simp [go_sem]) (by simp [go_sem])
  have hB := beyond (single w _) hb
  clear hb
  go_wp2_with fail
  refine bodyPost_ret (v := trip (0, 0, 7)) (by simp [results, Tryd.results25, go_sem, *]) rfl ⟨rfl, ?_⟩
  first | exact hB | exact set2 hB (Nat.le_refl _) _ _
set_option maxRecDepth 100000 in
set_option maxHeartbeats 4000000 in
theorem rsum_main (b off cap m : Nat) (L : Rats) (w : World) (hm : L.q = m + 1) (hV : RatV w (some ⟨b, off, none⟩) L) (hI : RatI L) (hr : rightR (L.n 0) (L.d 0) = true) (hcap : m + 1 ≤ cap) (hc1 : ¬ cap = 1) (hq : m + 1 ≤ 9223372036854775807) :
    Calls Tryd.prog 25 #[.slice (some ⟨b, off, none⟩) ((m + 1 : Nat)) cap] w fun e w' => e = .returned (trip (sumG L m)) ∧ Below w.heap.size w w' := by
  have c1 : w.cell? ⟨b, off, none⟩ = some (.int .i64 (L.n 0)) := by
    obtain ⟨b', off', e, h1, h2⟩ := hV 0 (by omega)
    injection e with e; injection e with e1 e2; subst e1; subst e2
    simpa using h1
  have c2 : w.cell? ⟨b, off + 1, none⟩ = some (.int .i64 (L.d 0)) := by
    obtain ⟨b', off', e, h1, h2⟩ := hV 0 (by omega)
    injection e with e; injection e with e1 e2; subst e1; subst e2
    simpa using h2
  have RW : Hid (∀ J, J < m → w.cell? ⟨b, off + 2 + J * 2, none⟩ = some (.int .i64 (L.n (J + 1))) ∧ w.cell? ⟨b, off + 2 + J * 2 + 1, none⟩ = some (.int .i64 (L.d (J + 1)))) := fun J hJ => by
    obtain ⟨b', off', e, h1, h2⟩ := hV (J + 1) (by omega)
    injection e with e; injection e with e1 e2; subst e1; subst e2
    rw [show off + 2 + J * 2 = off + (J + 1) * 2 by omega]
    exact ⟨h1, h2⟩
  have HR : Hid (AskR (L.n 0) (L.d 0) true) := by
    show AskR _ _ _
    have h := askR (L.n 0) (L.d 0) (hI 0 (by omega)).1 (hI 0 (by omega)).2
    rw [hr] at h
    exact h
  have HI : Hid (RatI L) := hI
  have HM : Hid (L.q = m + 1) := hm
  have G0 : Hid ((sumG L 0) = (L.n 0, L.d 0, 0)) := rfl
  clear hV hI hm hr
  have k1 := kc ⟨b, off, none⟩ (.int .i64 (L.n 0)) (single w (.cells #[.int .i64 0, .int .i64 0] 23)) c1
  have k2 := kc ⟨b, off + 1, none⟩ (.int .i64 (L.d 0)) (single w (.cells #[.int .i64 0, .int .i64 0] 23)) c2
  have BL : b < w.heap.size := World.block_lt_of_cell? _ _ c1
  generalize L.n 0 = x at *
  generalize L.d 0 = y at *
  generalize hM : m + 1 = M at *
  have HN := hideR hM
  have m0 : ((M : Int) == 0) = false := by simp; omega
  have mm : M - 1 = m := by omega
  have m1 : (0 : Int) < (M : Int) := by omega
  have m2 : (1 : Int) ≤ (M : Int) := by omega
  have m3 : (M : Int) ≤ (cap : Int) := by omega
  clear c1 c2 hM
  go_enter Tryd.func25, Tryd.ntmps25
  go_wp2_with fail
  refine (HR.out _).mono ?_
  rintro e w1 ⟨rfl, hb⟩
  have s0 := kc ⟨w.heap.size, 0, none⟩ (.int .i64 0) hb (by simp [go_sem])
  have s1 := kc ⟨w.heap.size, 1, none⟩ (.int .i64 0) hb (by simp [go_sem])
  have s2 := kf ⟨w.heap.size, 0, none⟩ (.int .i64 0) hb (by simp [go_sem]) (by simp [go_sem])
  have s3 := kf ⟨w.heap.size, 1, none⟩ (.int .i64 0) hb (by simp [go_sem]) (by simp [go_sem])
  have l1 := kc _ _ hb k1
  have l2 := kc _ _ hb k2
  have hB := beyond (single w _) hb
  clear hb k1 k2
  go_wp2_with fail
  have T0 : (w1.alloc (.cells #[.int .i64 x, .int .i64 y] 23)).cell? ⟨w1.heap.size, 0, none⟩ = some (.int .i64 x) := new_cell w1 _ _ 0
  have T1 : (w1.alloc (.cells #[.int .i64 x, .int .i64 y] 23)).cell? ⟨w1.heap.size, 1, none⟩ = some (.int .i64 y) := new_cell w1 _ _ 1
  have T2 : (w1.alloc (.cells #[.int .i64 x, .int .i64 y] 23)).frozen? ⟨w1.heap.size, 0, none⟩ = false := new_frozen w1 _ _ 0
  have T3 : (w1.alloc (.cells #[.int .i64 x, .int .i64 y] 23)).frozen? ⟨w1.heap.size, 1, none⟩ = false := new_frozen w1 _ _ 1
  have S0 : (w1.alloc (.cells #[.int .i64 x, .int .i64 y] 23)).cell? ⟨w.heap.size, 0, none⟩ = some (.int .i64 0) := kc _ _ (single _ _) s0
  have S1 : (w1.alloc (.cells #[.int .i64 x, .int .i64 y] 23)).cell? ⟨w.heap.size, 1, none⟩ = some (.int .i64 0) := kc _ _ (single _ _) s1
  have S2 : (w1.alloc (.cells #[.int .i64 x, .int .i64 y] 23)).frozen? ⟨w.heap.size, 0, none⟩ = false := kf _ _ (single _ _) s0 s2
  have S3 : (w1.alloc (.cells #[.int .i64 x, .int .i64 y] 23)).frozen? ⟨w.heap.size, 1, none⟩ = false := kf _ _ (single _ _) s1 s3
  have B0 : Below w.heap.size w (w1.alloc (.cells #[.int .i64 x, .int .i64 y] 23)) := beyond hB (single _ _)
  have q1 : w.heap.size < w1.heap.size := World.block_lt_of_cell? _ _ s0
  clear s0 s1 s2 s3 l1 l2 hB
  generalize w1.alloc (.cells #[.int .i64 x, .int .i64 y] 23) = W1 at *
  generalize w1.heap.size = T at *
  have I0 : Hid (SumAt W1 w T (sumG L 0)) := by
    show SumAt _ _ _ _
    rw [G0.out]
    exact ⟨T0, T1, T2, T3, S0, S1, S2, S3, B0⟩
  have I1 : Hid ((sumG L 0).2.2 = 0) := by show _ = _; rw [G0.out]
  clear T0 T1 T2 T3 S0 S1 S2 S3 B0 G0 HR m0 m1 m2 m3
  go_loopw [25] (fun s wr => ∃ (J : Nat), J ≤ m ∧ s = .int .i64 J ∧ Hid ((sumG L J).2.2 = 0) ∧ Hid (SumAt wr w T (sumG L J))) (fun s _ => m - (intOf s).toNat)
  case atStart => exact ⟨0, by omega, rfl, I1, I0⟩
  case round =>
    obtain ⟨J, hJ, rfl, E, SA⟩ := hrel
    clear I0 I1
    by_cases cj : J < m
    · obtain ⟨d1, d2⟩ := RW.out J cj
      have SA' := SA.out
      obtain ⟨T0, T1, T2, T3, S0, S1, S2, S3, B0⟩ := SA'
      have c1 := kc _ _ B0 d1
      have c2 := kc _ _ B0 d2
      have k0 : (0 : Int) ≤ (J : Int) := by omega
      have k1 : (J : Int) < (m : Int) := by omega
      have HA : Hid (∀ w, Calls Tryd.prog 14 #[rv (sumG L J).1 (sumG L J).2.1, rv (L.n (J + 1)) (L.d (J + 1))] w fun e w' => e = .returned (trip (addT (sumG L J).1 (sumG L J).2.1 (L.n (J + 1)) (L.d (J + 1)))) ∧ Below w.heap.size w w') := by
        obtain ⟨i1, i2⟩ := sum_i64 HI.out J (by have := HM.out; have := HN.out; omega) E.out
        obtain ⟨i3, i4⟩ := HI.out (J + 1) (by have := HM.out; have := HN.out; omega)
        exact hideR fun w => radd_any _ _ _ _ w i1 i2 i3 i4
      have NX : Hid (sumG L (J + 1) = (if (addT (sumG L J).1 (sumG L J).2.1 (L.n (J + 1)) (L.d (J + 1))).2.2 = 0 then addT (sumG L J).1 (sumG L J).2.1 (L.n (J + 1)) (L.d (J + 1)) else (0, 0, (addT (sumG L J).1 (sumG L J).2.1 (L.n (J + 1)) (L.d (J + 1))).2.2))) := by
        show _ = _
        rw [sumG, if_pos E.out]
      clear d1 d2 B0
      generalize L.n (J + 1) = u at *
      generalize L.d (J + 1) = v at *
      generalize addT (sumG L J).1 (sumG L J).2.1 u v = s at *
      generalize sumG L J = t at *
      obtain ⟨x1, y1, e1⟩ := t
      obtain ⟨x2, y2, e2⟩ := s
      dsimp only at T0 T1 HA NX
      have n1 : ¬ T = w.heap.size := by omega
      have ST : Hid (∀ k, J + 1 ≤ k → ¬ (sumG L (J + 1)).2.2 = 0 → sumG L k = sumG L (J + 1)) := fun k hk h => sum_stay h k hk
      clear T0 T1 T2 T3 S0 S1 S2 S3 E
      go_upto_region 9 with (fail)
      have SB := SA.out.later (single wr (.cells #[.int .i64 u, .int .i64 v] 23))
      have r0 : (wr.alloc (.cells #[.int .i64 u, .int .i64 v] 23)).cell? ⟨wr.heap.size, 0, none⟩ = some (.int .i64 u) := new_cell wr _ _ 0
      have r1 : (wr.alloc (.cells #[.int .i64 u, .int .i64 v] 23)).cell? ⟨wr.heap.size, 1, none⟩ = some (.int .i64 v) := new_cell wr _ _ 1
      clear SA c1 c2
      generalize wr.alloc (.cells #[.int .i64 u, .int .i64 v] 23) = W2 at *
      generalize wr.heap.size = rb at *
      have HSB := hideR SB
      obtain ⟨T0, T1, T2, T3, S0, S1, S2, S3, B0⟩ := SB
      dsimp only at T0 T1
      clear T2 T3 S0 S1 S2 S3 B0
      go_wp2_with fail
      refine (HA.out _).mono ?_
      rintro e' w3 ⟨rfl, hb⟩
      have SC := HSB.out.later hb
      clear hb HSB T0 T1 r0 r1
      go_upto_region 10 with (fail)
      have SD := SC.later (single w3 (.cells #[.int .i64 x2, .int .i64 y2] 23))
      have r0 : (w3.alloc (.cells #[.int .i64 x2, .int .i64 y2] 23)).cell? ⟨w3.heap.size, 0, none⟩ = some (.int .i64 x2) := new_cell w3 _ _ 0
      have r1 : (w3.alloc (.cells #[.int .i64 x2, .int .i64 y2] 23)).cell? ⟨w3.heap.size, 1, none⟩ = some (.int .i64 y2) := new_cell w3 _ _ 1
      clear SC HA
      generalize w3.alloc (.cells #[.int .i64 x2, .int .i64 y2] 23) = W3 at *
      generalize w3.heap.size = nb at *
      have HSD := hideR SD
      obtain ⟨T0, T1, T2, T3, S0, S1, S2, S3, B0⟩ := SD
      have BB := hideR B0
      dsimp only at T0 T1
      clear B0
      by_cases c : e2 = 0
      · subst c
        have NX' : Hid (sumG L (J + 1) = (x2, y2, 0)) := by
          show _ = _
          rw [NX.out, if_pos rfl]
        have SE : Hid (SumAt ((W3.setCell ⟨T, 0, none⟩ (.int .i64 x2)).setCell ⟨T, 1, none⟩ (.int .i64 y2)) w T (sumG L (J + 1))) := by
          show SumAt _ _ _ _
          rw [NX'.out]
          exact HSD.out.put q1 x2 y2 0
        have EE : Hid ((sumG L (J + 1)).2.2 = 0) := by show _ = _; rw [NX'.out]
        clear NX NX' HSD ST BB
        go_wp2_with fail
        go_roundw
        case rel => exact ⟨J + 1, by omega, by go_num, EE, SE⟩
        case measure => simp [intOf]; omega
      · have NX' : Hid (sumG L (J + 1) = (0, 0, e2)) := by
          show _ = _
          rw [NX.out, if_neg c]
        have R : Hid (sumG L m = (0, 0, e2)) := by
          show _ = _
          rw [ST.out m (by omega) (by rw [NX'.out]; exact c), NX'.out]
        have c' : (e2 == 0) = false := by simpa using c
        clear NX NX' HSD ST
        go_wp2_with fail
        refine bodyPost_ret (v := trip (0, 0, e2)) (by simp [results, Tryd.results25, go_sem, *]) rfl ⟨by rw [R.out], ?_⟩
        first | exact BB.out | exact set2 BB.out (Nat.le_refl _) _ _
    · have e : J = m := by omega
      subst e
      obtain ⟨T0, T1, T2, T3, S0, S1, S2, S3, B0⟩ := SA.out
      have k1 : decide ((J : Int) < (J : Int)) = false := by simp
      have z := E.out
      have n1 : ¬ T = w.heap.size := by omega
      have n2 : ¬ w.heap.size = T := by omega
      have BB := hideR B0
      clear E SA B0
      generalize ht : sumG L J = t at *
      have HT := hideR ht
      clear ht
      obtain ⟨x1, y1, e1⟩ := t
      dsimp only at T0 T1 z
      subst z
      go_wp2_with fail
      refine bodyPost_ret (v := trip (x1, y1, 0)) (by simp [results, Tryd.results25, go_sem, *]) rfl ⟨by rw [HT.out], ?_⟩
      exact set2 BB.out (Nat.le_refl _) _ _
theorem rlist_any (g cap : Nat) (L : Rats) (w : World) (hV : RatV w (some ⟨g, 0, none⟩) L) (hI : RatI L) (hcap : L.q ≤ cap) (hc1 : ¬ cap = 1) (hq : L.q ≤ 9223372036854775807) :
    Calls Tryd.prog 25 #[.slice (some ⟨g, 0, none⟩) L.q cap] w fun e w' => e = .returned (trip (sumT L)) ∧ Below w.heap.size w w' := by
  by_cases z : L.q = 0
  · have e : sumT L = (0, 1, 0) := by simp [sumT, z]
    rw [e, z]
    exact rsum_none _ cap w
  · obtain ⟨m, hm⟩ : ∃ m, L.q = m + 1 := ⟨L.q - 1, by omega⟩
    cases r : rightR (L.n 0) (L.d 0)
    · have e : sumT L = (0, 0, 7) := by simp [sumT, z, r]
      rw [e]
      obtain ⟨b, off, e1, h1, h2⟩ := hV 0 (by omega)
      injection e1 with e1
      injection e1 with e2 e3
      subst e2
      subst e3
      have h := askR (L.n 0) (L.d 0) (hI 0 (by omega)).1 (hI 0 (by omega)).2
      rw [r] at h
      exact rsum_wrong _ _ cap L.q _ _ w (by omega) (by simpa using h1) (by simpa using h2) h
    · have e : sumT L = sumG L m := by simp [sumT, r, hm]
      rw [e, hm]
      exact rsum_main g 0 cap m L w hm hV hI r (by omega) hc1 (by omega)
end Go.Proofs.YtnhopmoboahlgaaDoor
