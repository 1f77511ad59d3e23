/-
  dbm.Limits, of rows of limits.
-/
import Derived.Test.YtnfkmpickmonoaaGreatQ10
import Derived.Test.YtnfkmpickmonoaaGreatQ11
namespace Go.Proofs.YtnfkmpickmonoaaGreat
open Go.RowKit
set_option linter.unusedVariables false
set_option maxRecDepth 100000
/-- A row of limits: of each its two numbers and its bound. -/
structure Lims where
  q : Nat
  i : Nat → Int
  j : Nat → Int
  b : Nat → Int
/-- One that may be. -/
def okL (n : Nat) (L : Lims) (k : Nat) : Bool := decide (0 ≤ L.i k ∧ L.i k ≤ n ∧ 0 ≤ L.j k ∧ L.j k ≤ n) && rightB (L.b k)
def okAll (n : Nat) (L : Lims) : Nat → Bool
  | 0 => true
  | k + 1 => okAll n L k && okL n L k
theorem okAll_false {n : Nat} {L : Lims} : ∀ {k : Nat} (m : Nat), k ≤ m → okAll n L k = false → okAll n L m = false := by
  intro k m h e
  induction m with
  | zero => obtain rfl : k = 0 := by omega
            exact e
  | succ m ih =>
    by_cases q : k = m + 1
    · subst q; exact e
    · simp [okAll, ih (by omega)]
def tlAll (L : Lims) : Nat → Mat → Mat
  | 0, r => r
  | k + 1, r => tg (tlAll L k r) (L.i k).toNat (L.j k).toNat (L.b k)
/-- They lie in memory, three cells each. -/
def LimRow (w : World) (b off : Nat) (L : Lims) : Prop := ∀ k, k < L.q → w.cell? ⟨b, off + k * 3, none⟩ = some (.int .i64 (L.i k)) ∧ w.cell? ⟨b, off + k * 3 + 1, none⟩ = some (.int .i64 (L.j k)) ∧ w.cell? ⟨b, off + k * 3 + 2, none⟩ = some (.int .i32 (L.b k))
theorem LimRow.later {w w' : World} {b off B : Nat} {L : Lims} (h : LimRow w b off L) (hb : Below B w w') (hB : b < B) : LimRow w' b off L := fun k hk =>
  ⟨(hb.cell (p := ⟨b, off + k * 3, none⟩) hB).trans (h k hk).1, (hb.cell (p := ⟨b, off + k * 3 + 1, none⟩) hB).trans (h k hk).2.1, (hb.cell (p := ⟨b, off + k * 3 + 2, none⟩) hB).trans (h k hk).2.2⟩
set_option maxHeartbeats 4000000 in
theorem limits_main (n cb off cap : Nat) (L : Lims) (w : World) (h : n ≤ 8) (hR : LimRow w cb off L) (hcb : cb < w.heap.size) (hi : ∀ k, k < L.q → -2147483648 ≤ L.b k ∧ L.b k ≤ 2147483647) (hq : L.q ≤ 9223372036854775807) :
    Calls Tryz.prog 44 #[.int .i64 n, .slice (some ⟨cb, off, none⟩) L.q cap] w fun e w' => Below w.heap.size w w' ∧
      ((okAll n L L.q = false ∧ e = errOf 7) ∨ (okAll n L L.q = true ∧ ZoneOut w' w.heap.size n e (zoneR n (tlAll L L.q (startR n (n + 1) 0))))) := by
  have H := hideD (mayYes n w h)
  have HD := hideD (draftOf_any n w h)
  have HR := hideD hR
  have HI := hideD hi
  have HZ : Hid (∀ b w, Draft w b n (tlAll L L.q (startR n (n + 1) 0)) → Calls Tryz.prog 40 #[.pointer (some ⟨b, 0, none⟩)] w fun e w' => ZoneOut w' w.heap.size n e (zoneR n (tlAll L L.q (startR n (n + 1) 0))) ∧ Below b w w') := fun b w hD => zone_any b n _ w h hD
  clear hR hi
  generalize em : L.q = m at *
  have EM := hideD em
  clear em
  have m1 : (m : Int) ≤ 9223372036854775807 := by omega
  go_enter Tryz.func44, Tryz.ntmps44
  go_wp2_with fail
  refine H.out.mono ?_
  rintro e w' ⟨rfl, rfl⟩
  go_wp2_with fail
  refine HD.out.mono ?_
  rintro e w1 ⟨rfl, hd, hb⟩
  have HD1 := hideD hd
  have HB1 := hideD hb
  clear hd hb H HD
  go_wp2_with fail
  go_loopw [16] (fun s wr => ∃ (K : Nat), K ≤ m ∧ s = .int .i64 K ∧ Hid (okAll n L K = true) ∧ Hid (Draft wr w'.heap.size n (tlAll L K (startR n (n + 1) 0))) ∧ Hid (Below w'.heap.size w' wr)) (fun s _ => m - (intOf s).toNat)
  case atStart => exact ⟨0, by omega, rfl, rfl, HD1, HB1⟩
  case round =>
    obtain ⟨K, hK, rfl, hq', hD, hB⟩ := hrel
    clear HD1 HB1
    by_cases ck : K < m
    · obtain ⟨c1, c2, c3⟩ := (HR.out.later hB.out hcb) K (by rw [EM.out]; exact ck)
      obtain ⟨x0, x1⟩ := HI.out K ck
      have st : Hid (okAll n L (K + 1) = (decide (0 ≤ L.i K ∧ L.i K ≤ n ∧ 0 ≤ L.j K ∧ L.j K ≤ n) && rightB (L.b K))) := by show okAll n L (K + 1) = _; rw [okAll, hq'.out, Bool.true_and]; rfl
      have nx : Hid (tlAll L (K + 1) (startR n (n + 1) 0) = tg (tlAll L K (startR n (n + 1) 0)) (L.i K).toNat (L.j K).toNat (L.b K)) := rfl
      have i0 : (0 : Int) ≤ (K : Int) := by omega
      have i1 : (K : Int) < (m : Int) := by omega
      have HH : Hid (∀ w, Calls Tryz.prog 68 #[.agg #[.int .i64 n], .int .i64 (L.i K), .int .i64 (L.j K)] w fun e w' => e = .returned (.bool (decide (0 ≤ L.i K ∧ L.i K ≤ n ∧ 0 ≤ L.j K ∧ L.j K ≤ n))) ∧ Below w.heap.size w w') := fun w => has_any n _ _ w
      have HB : Hid (∀ w, Calls Tryz.prog 37 #[.int .i32 (L.b K)] w fun e w' => e = .returned (.bool (rightB (L.b K))) ∧ w' = w) := fun w => right_any _ w
      have hc := hD.out.clocks
      generalize L.i K = x at *
      generalize L.j K = y at *
      generalize L.b K = z at *
      have b2 := below_one wr (.cells #[.int .i64 x, .int .i64 y, .int .i32 z] 90)
      go_upto_region 7 with (fail)
      have f0 : (wr.alloc (.cells #[.int .i64 x, .int .i64 y, .int .i32 z] 90)).cell? ⟨wr.heap.size, 0, none⟩ = some (.int .i64 x) := by simp [go_sem]
      have f1 : (wr.alloc (.cells #[.int .i64 x, .int .i64 y, .int .i32 z] 90)).cell? ⟨wr.heap.size, 1, none⟩ = some (.int .i64 y) := by simp [go_sem]
      have f2 : (wr.alloc (.cells #[.int .i64 x, .int .i64 y, .int .i32 z] 90)).cell? ⟨wr.heap.size, 2, none⟩ = some (.int .i32 z) := by simp [go_sem]
      have hD2 := hideD (hD.out.later b2 hD.out.lt)
      have hB2 := hideD (beyondD hB.out b2)
      have d0 := hD2.out.clocks
      generalize wr.alloc (.cells #[.int .i64 x, .int .i64 y, .int .i32 z] 90) = W2 at *
      generalize wr.heap.size = B at *
      clear b2 hD hB hc c1 c2 c3
      by_cases hin : 0 ≤ x ∧ x ≤ n ∧ 0 ≤ y ∧ y ≤ n
      · rw [decide_eq_true hin] at HH
        cases er : rightB z with
        | false =>
          rw [er] at HB
          have st3 : Hid (okAll n L m = false) := okAll_false (k := K + 1) m (by omega) (st.out.trans (by rw [er, Bool.and_false]))
          clear er st hin
          go_cut [35] (fun t w2 => t = .bool true ∧ Below W2.heap.size W2 w2)
          case first =>
            first
            | go_region_with
              (first
              | (go_at_call 68; refine (HH.out _).mono ?_; rintro e' w3 ⟨rfl, hb⟩; have s2 := kc ⟨B, 2, none⟩ (.int .i32 z) hb (by first | exact f2); have hX := beyondD (w := W2) (by first | with_reducible exact Below.drew (Below.refl _ _) | with_reducible exact Below.refl _ _) hb; clear hb)
              | (go_at_call 37; refine (HB.out _).mono ?_; rintro e' w4 ⟨rfl, rfl⟩))
            | fail
            all_goals go_wp2_with fail
            all_goals go_meet
            all_goals exact ⟨rfl, by assumption⟩
          case rest =>
            obtain ⟨rfl, hb2⟩ := hcut
            go_wp2_with fail
            refine bodyPost_ret (v := .tuple #[.pointer none, .int .i64 7]) (by simp [results, Tryz.results44, go_sem]) rfl ⟨beyondD hB2.out hb2, .inl ⟨st3.out, rfl⟩⟩
        | true =>
          rw [er] at HB
          have st3 : Hid (okAll n L (K + 1) = true) := st.out.trans (by rw [er, decide_eq_true hin]; rfl)
          obtain ⟨p1, p2, p3, p4⟩ := hin
          clear er st
          obtain ⟨X, rfl⟩ := Int.eq_ofNat_of_zero_le p1
          obtain ⟨Y, rfl⟩ := Int.eq_ofNat_of_zero_le p3
          rw [Int.toNat_natCast, Int.toNat_natCast] at nx
          go_cut [35] (fun t w2 => t = .bool false ∧ Below W2.heap.size W2 w2)
          case first =>
            first
            | go_region_with
              (first
              | (go_at_call 68; refine (HH.out _).mono ?_; rintro e' w3 ⟨rfl, hb⟩; have s2 := kc ⟨B, 2, none⟩ (.int .i32 z) hb (by first | exact f2); have hX := beyondD (w := W2) (by first | with_reducible exact Below.drew (Below.refl _ _) | with_reducible exact Below.refl _ _) hb; clear hb)
              | (go_at_call 37; refine (HB.out _).mono ?_; rintro e' w4 ⟨rfl, rfl⟩))
            | fail
            all_goals go_wp2_with fail
            all_goals go_meet
            all_goals exact ⟨rfl, by assumption⟩
          case rest =>
            obtain ⟨rfl, hb2⟩ := hcut
            have g0 := kc _ _ hb2 f0
            have g1 := kc _ _ hb2 f1
            have g2 := kc _ _ hb2 f2
            have hD3 := hideD (hD2.out.later hb2 hD2.out.lt)
            have hB3 := hideD (beyondD hB2.out hb2)
            have HT := hideD (tighten_any _ n X Y _ z _ hD3.out (by omega) (by omega) x0 x1)
            clear hb2 hD2 hB2 f0 f1 f2 d0
            go_wp2_with fail
            refine HT.out.mono ?_
            rintro e' w5 ⟨rfl, hd, hb⟩
            have hD5 := hideD hd
            have hB5 := hideD (hB3.out.trans hb)
            clear hd hb
            go_wp2_with fail
            go_roundw
            case rel => exact ⟨K + 1, by omega, by go_num, st3, by rw [nx.out]; exact hD5, hB5⟩
            case measure => simp [intOf]; omega
      · rw [decide_eq_false hin] at HH
        have st3 : Hid (okAll n L m = false) := okAll_false (k := K + 1) m (by omega) (st.out.trans (by rw [decide_eq_false hin, Bool.false_and]))
        clear st
        go_cut [35] (fun t w2 => t = .bool true ∧ Below W2.heap.size W2 w2)
        case first =>
          first
          | go_region_with
            (first
              | (go_at_call 68; refine (HH.out _).mono ?_; rintro e' w3 ⟨rfl, hb⟩; have s2 := kc ⟨B, 2, none⟩ (.int .i32 z) hb (by first | exact f2); have hX := beyondD (w := W2) (by first | with_reducible exact Below.drew (Below.refl _ _) | with_reducible exact Below.refl _ _) hb; clear hb)
              | (go_at_call 37; refine (HB.out _).mono ?_; rintro e' w4 ⟨rfl, rfl⟩))
          | fail
          all_goals go_wp2_with fail
          all_goals go_meet
          all_goals exact ⟨rfl, by assumption⟩
        case rest =>
          obtain ⟨rfl, hb2⟩ := hcut
          go_wp2_with fail
          refine bodyPost_ret (v := .tuple #[.pointer none, .int .i64 7]) (by simp [results, Tryz.results44, go_sem]) rfl ⟨beyondD hB2.out hb2, .inl ⟨st3.out, rfl⟩⟩
    · have st : Hid (K = m) := by show K = m; omega
      have hq'' : Hid (okAll n L m = true) := by have e := st.out; subst e; exact hq'
      have hD' : Hid (Draft wr w'.heap.size n (tlAll L m (startR n (n + 1) 0))) := by have e := st.out; subst e; exact hD
      have HZ' := hideD (HZ.out _ _ hD'.out)
      go_wp2_with fail
      refine HZ'.out.mono ?_
      rintro e' w3 ⟨hz, hb⟩
      have hB3 := hideD (hB.out.trans hb)
      have hsz := hB.out.size
      cases ez : zoneR n (tlAll L m (startR n (n + 1) 0)) with
      | none =>
        rw [ez] at hz
        obtain rfl := hz
        go_wp2_with fail
        exact bodyPost_ret (v := .tuple #[.pointer none, .int .i64 10]) (by simp [results, Tryz.results44, go_sem]) rfl ⟨hB3.out, .inr ⟨hq''.out, by rw [ez]; exact rfl⟩⟩
      | some c =>
        rw [ez] at hz
        obtain ⟨b', hb', rfl, hz⟩ := hz
        go_wp2_with fail
        exact bodyPost_ret (v := .tuple #[.pointer (some ⟨b', 0, none⟩), .int .i64 0]) (by simp [results, Tryz.results44, go_sem]) rfl ⟨hB3.out, .inr ⟨hq''.out, by rw [ez]; exact ⟨b', Nat.le_trans hsz hb', rfl, hz⟩⟩⟩
end Go.Proofs.YtnfkmpickmonoaaGreat
