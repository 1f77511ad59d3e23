/-
  dbm.Limits, of rows of limits.
-/
import Derived.Test.YtdkolgndebkloaaGreatDoorZb
namespace Go.Proofs.YtdkolgndebkloaaGreatDoor
open Go.RowKit
set_option linter.unusedVariables false
set_option maxRecDepth 100000
/-- A row of limits: of each its two numbers and its bound. -/
structure Lims where
  q : Nat
  i : Nat → Int
  j : Nat → Int
  b : Nat → Int
/-- One that may be. -/
def okL (n : Nat) (L : Lims) (k : Nat) : Bool := decide (0 ≤ L.i k ∧ L.i k ≤ n ∧ 0 ≤ L.j k ∧ L.j k ≤ n) && rightB (L.b k)
def okAll (n : Nat) (L : Lims) : Nat → Bool
  | 0 => true
  | k + 1 => okAll n L k && okL n L k
theorem okAll_false {n : Nat} {L : Lims} : ∀ {k : Nat} (m : Nat), k ≤ m → okAll n L k = false → okAll n L m = false := by
  intro k m h e
  induction m with
  | zero => obtain rfl : k = 0 := by omega
            exact e
  | succ m ih =>
    by_cases q : k = m + 1
    · subst q; exact e
    · simp [okAll, ih (by omega)]
def tlAll (L : Lims) : Nat → Mat → Mat
  | 0, r => r
  | k + 1, r => tg (tlAll L k r) (L.i k).toNat (L.j k).toNat (L.b k)
/-- They lie in memory, three cells each. -/
def LimRow (w : World) (b off : Nat) (L : Lims) : Prop := ∀ k, k < L.q → w.cell? ⟨b, off + k * 3, none⟩ = some (.int .i64 (L.i k)) ∧ w.cell? ⟨b, off + k * 3 + 1, none⟩ = some (.int .i64 (L.j k)) ∧ w.cell? ⟨b, off + k * 3 + 2, none⟩ = some (.int .i32 (L.b k))
theorem LimRow.later {w w' : World} {b off B : Nat} {L : Lims} (h : LimRow w b off L) (hb : Below B w w') (hB : b < B) : LimRow w' b off L := fun k hk =>
  ⟨(hb.cell (p := ⟨b, off + k * 3, none⟩) hB).trans (h k hk).1, (hb.cell (p := ⟨b, off + k * 3 + 1, none⟩) hB).trans (h k hk).2.1, (hb.cell (p := ⟨b, off + k * 3 + 2, none⟩) hB).trans (h k hk).2.2⟩
set_option maxHeartbeats 4000000 in
theorem limits_main (n cb off cap : Nat) (L : Lims) (w : World) (h : n ≤ 8) (hR : LimRow w cb off L) (hcb : cb < w.heap.size) (hi : ∀ k, k < L.q → -2147483648 ≤ L.b k ∧ L.b k ≤ 2147483647) (hq : L.q ≤ 9223372036854775807) :
    Calls Tryz.prog 56 #[.int .i64 n, .slice (some ⟨cb, off, none⟩) L.q cap] w fun e w' => Below w.heap.size w w' ∧
      ((okAll n L L.q = false ∧ e = errOf 7) ∨ (okAll n L L.q = true ∧ ZoneOut w' w.heap.size n e (zoneR n (tlAll L L.q (startR n (n + 1) 0))))) := by
  have H := hideD (mayYes n w h)
  have HD := hideD (draftOf_any n w h)
  have HR := hideD hR
  have HI := hideD hi
  have HZ : Hid (∀ b w, Draft w b n (tlAll L L.q (startR n (n + 1) 0)) → Calls Tryz.prog 43 #[.pointer (some ⟨b, 0, none⟩)] w fun e w' => ZoneOut w' w.heap.size n e (zoneR n (tlAll L L.q (startR n (n + 1) 0))) ∧ Below b w w') := fun b w hD => zone_any b n _ w h hD
  clear hR hi
  generalize em : L.q = m at *
  have EM := hideD em
  clear em
  have m1 : (m : Int) ≤ 9223372036854775807 := by omega
  go_enter Tryz.func56, Tryz.ntmps56
  go_wp2_with fail
  refine H.out.mono ?_
  rintro e w' ⟨rfl, rfl⟩
  go_wp2_with fail
  refine HD.out.mono ?_
  rintro e w1 ⟨rfl, hd, hb⟩
  have HD1 := hideD hd
  have HB1 := hideD hb
  clear hd hb H HD
  go_wp2_with fail
  go_loopw [16] (fun s wr => ∃ (K : Nat), K ≤ m ∧ s = .int .i64 K ∧ Hid (okAll n L K = true) ∧ Hid (Draft wr w'.heap.size n (tlAll L K (startR n (n + 1) 0))) ∧ Hid (Below w'.heap.size w' wr)) (fun s _ => m - (intOf s).toNat)
  case atStart => exact ⟨0, by omega, rfl, rfl, HD1, HB1⟩
  case round =>
    obtain ⟨K, hK, rfl, hq', hD, hB⟩ := hrel
    clear HD1 HB1
    by_cases ck : K < m
    · obtain ⟨c1, c2, c3⟩ := (HR.out.later hB.out hcb) K (by rw [EM.out]; exact ck)
      obtain ⟨x0, x1⟩ := HI.out K ck
      have st : Hid (okAll n L (K + 1) = (decide (0 ≤ L.i K ∧ L.i K ≤ n ∧ 0 ≤ L.j K ∧ L.j K ≤ n) && rightB (L.b K))) := by show okAll n L (K + 1) = _; rw [okAll, hq'.out, Bool.true_and]; rfl
      have nx : Hid (tlAll L (K + 1) (startR n (n + 1) 0) = tg (tlAll L K (startR n (n + 1) 0)) (L.i K).toNat (L.j K).toNat (L.b K)) := rfl
      have i0 : (0 : Int) ≤ (K : Int) := by omega
      have i1 : (K : Int) < (m : Int) := by omega
      have HH : Hid (∀ w, Calls Tryz.prog 53 #[.agg #[.int .i64 n], .int .i64 (L.i K), .int .i64 (L.j K)] w fun e w' => e = .returned (.bool (decide (0 ≤ L.i K ∧ L.i K ≤ n ∧ 0 ≤ L.j K ∧ L.j K ≤ n))) ∧ Below w.heap.size w w') := fun w => has_any n _ _ w
      have HB : Hid (∀ w, Calls Tryz.prog 41 #[.int .i32 (L.b K)] w fun e w' => e = .returned (.bool (rightB (L.b K))) ∧ w' = w) := fun w => right_any _ w
      have hc := hD.out.clocks
      generalize L.i K = x at *
      generalize L.j K = y at *
      generalize L.b K = z at *
      have b2 := below_one wr (.cells #[.int .i64 x, .int .i64 y, .int .i32 z] 49)
      go_upto_region 7 with (fail)
      have f0 : (wr.alloc (.cells #[.int .i64 x, .int .i64 y, .int .i32 z] 49)).cell? ⟨wr.heap.size, 0, none⟩ = some (.int .i64 x) := by simp [go_sem]
      have f1 : (wr.alloc (.cells #[.int .i64 x, .int .i64 y, .int .i32 z] 49)).cell? ⟨wr.heap.size, 1, none⟩ = some (.int .i64 y) := by simp [go_sem]
      have f2 : (wr.alloc (.cells #[.int .i64 x, .int .i64 y, .int .i32 z] 49)).cell? ⟨wr.heap.size, 2, none⟩ = some (.int .i32 z) := by simp [go_sem]
      have hD2 := hideD (hD.out.later b2 hD.out.lt)
      have hB2 := hideD (beyondD hB.out b2)
      have d0 := hD2.out.clocks
      generalize wr.alloc (.cells #[.int .i64 x, .int .i64 y, .int .i32 z] 49) = W2 at *
      generalize wr.heap.size = B at *
      clear b2 hD hB hc c1 c2 c3
      by_cases hin : 0 ≤ x ∧ x ≤ n ∧ 0 ≤ y ∧ y ≤ n
      · rw [decide_eq_true hin] at HH
        cases er : rightB z with
        | false =>
          rw [er] at HB
          have st3 : Hid (okAll n L m = false) := okAll_false (k := K + 1) m (by omega) (st.out.trans (by rw [er, Bool.and_false]))
          clear er st hin
          go_cut [35] (fun t w2 => t = .bool true ∧ Below W2.heap.size W2 w2)
          case first =>
            first
            | go_region_with
              (first
              | (go_at_call 53; refine (HH.out _).mono ?_; rintro e' w3 ⟨rfl, hb⟩; have s2 := kc ⟨B, 2, none⟩ (.int .i32 z) hb (by first | exact f2); have hX := beyondD (w := W2) (by first | with_reducible exact Below.drew (Below.refl _ _) | with_reducible exact Below.refl _ _) hb; clear hb)
              | (go_at_call 41; refine (HB.out _).mono ?_; rintro e' w4 ⟨rfl, rfl⟩))
            | fail
            all_goals go_wp2_with fail
            all_goals go_meet
            all_goals exact ⟨rfl, by assumption⟩
          case rest =>
            obtain ⟨rfl, hb2⟩ := hcut
            go_wp2_with fail
            refine bodyPost_ret (v := .tuple #[.pointer none, .int .i64 7]) (by simp [results, Tryz.results56, go_sem]) rfl ⟨beyondD hB2.out hb2, .inl ⟨st3.out, rfl⟩⟩
        | true =>
          rw [er] at HB
          have st3 : Hid (okAll n L (K + 1) = true) := st.out.trans (by rw [er, decide_eq_true hin]; rfl)
          obtain ⟨p1, p2, p3, p4⟩ := hin
          clear er st
          obtain ⟨X, rfl⟩ := Int.eq_ofNat_of_zero_le p1
          obtain ⟨Y, rfl⟩ := Int.eq_ofNat_of_zero_le p3
          rw [Int.toNat_natCast, Int.toNat_natCast] at nx
          go_cut [35] (fun t w2 => t = .bool false ∧ Below W2.heap.size W2 w2)
          case first =>
            first
            | go_region_with
              (first
              | (go_at_call 53; refine (HH.out _).mono ?_; rintro e' w3 ⟨rfl, hb⟩; have s2 := kc ⟨B, 2, none⟩ (.int .i32 z) hb (by first | exact f2); have hX := beyondD (w := W2) (by first | with_reducible exact Below.drew (Below.refl _ _) | with_reducible exact Below.refl _ _) hb; clear hb)
              | (go_at_call 41; refine (HB.out _).mono ?_; rintro e' w4 ⟨rfl, rfl⟩))
            | fail
            all_goals go_wp2_with fail
            all_goals go_meet
            all_goals exact ⟨rfl, by assumption⟩
          case rest =>
            obtain ⟨rfl, hb2⟩ := hcut
            have g0 := kc _ _ hb2 f0
            have g1 := kc _ _ hb2 f1
            have g2 := kc _ _ hb2 f2
            have hD3 := hideD (hD2.out.later hb2 hD2.out.lt)
            have hB3 := hideD (beyondD hB2.out hb2)
            have HT := hideD (tighten_any _ n X Y _ z _ hD3.out (by omega) (by omega) x0 x1)
            clear hb2 hD2 hB2 f0 f1 f2 d0
            go_wp2_with fail
            refine HT.out.mono ?_
            rintro e' w5 ⟨rfl, hd, hb⟩
            have hD5 := hideD hd
            have hB5 := hideD (hB3.out.trans hb)
            clear hd hb
            go_wp2_with fail
            go_roundw
            case rel => exact ⟨K + 1, by omega, by go_num, st3, by rw [nx.out]; exact hD5, hB5⟩
            case measure => simp [intOf]; omega
      · rw [decide_eq_false hin] at HH
        have st3 : Hid (okAll n L m = false) := okAll_false (k := K + 1) m (by omega) (st.out.trans (by rw [decide_eq_false hin, Bool.false_and]))
        clear st
        go_cut [35] (fun t w2 => t = .bool true ∧ Below W2.heap.size W2 w2)
        case first =>
          first
          | go_region_with
            (first
              | (go_at_call 53; refine (HH.out _).mono ?_; rintro e' w3 ⟨rfl, hb⟩; have s2 := kc ⟨B, 2, none⟩ (.int .i32 z) hb (by first | exact f2); have hX := beyondD (w := W2) (by first | with_reducible exact Below.drew (Below.refl _ _) | with_reducible exact Below.refl _ _) hb; clear hb)
              | (go_at_call 41; refine (HB.out _).mono ?_; rintro e' w4 ⟨rfl, rfl⟩))
          | fail
          all_goals go_wp2_with fail
          all_goals go_meet
          all_goals exact ⟨rfl, by assumption⟩
        case rest =>
          obtain ⟨rfl, hb2⟩ := hcut
          go_wp2_with fail
          refine bodyPost_ret (v := .tuple #[.pointer none, .int .i64 7]) (by simp [results, Tryz.results56, go_sem]) rfl ⟨beyondD hB2.out hb2, .inl ⟨st3.out, rfl⟩⟩
    · have st : Hid (K = m) := by show K = m; omega
      have hq'' : Hid (okAll n L m = true) := by have e := st.out; subst e; exact hq'
      have hD' : Hid (Draft wr w'.heap.size n (tlAll L m (startR n (n + 1) 0))) := by have e := st.out; subst e; exact hD
      have HZ' := hideD (HZ.out _ _ hD'.out)
      go_wp2_with fail
      refine HZ'.out.mono ?_
      rintro e' w3 ⟨hz, hb⟩
      have hB3 := hideD (hB.out.trans hb)
      have hsz := hB.out.size
      cases ez : zoneR n (tlAll L m (startR n (n + 1) 0)) with
      | none =>
        rw [ez] at hz
        obtain rfl := hz
        go_wp2_with fail
        exact bodyPost_ret (v := .tuple #[.pointer none, .int .i64 10]) (by simp [results, Tryz.results56, go_sem]) rfl ⟨hB3.out, .inr ⟨hq''.out, by rw [ez]; exact rfl⟩⟩
      | some c =>
        rw [ez] at hz
        obtain ⟨b', hb', rfl, hz⟩ := hz
        go_wp2_with fail
        exact bodyPost_ret (v := .tuple #[.pointer (some ⟨b', 0, none⟩), .int .i64 0]) (by simp [results, Tryz.results56, go_sem]) rfl ⟨hB3.out, .inr ⟨hq''.out, by rw [ez]; exact ⟨b', Nat.le_trans hsz hb', rfl, hz⟩⟩⟩
end Go.Proofs.YtdkolgndebkloaaGreatDoor

/-
  The document's Limits, of rows of limits: Infs, and the strictest bounds of each difference.
-/
namespace Go.Proofs.YtdkolgndebkloaaGreatDoor
open Go.RowKit
set_option linter.unusedVariables false
set_option maxRecDepth 100000
def posL (n : Nat) (L : Lims) (k : Nat) : Nat := (L.i k).toNat * (n + 1) + (L.j k).toNat
/-- The strictest bounds, in the place of Inf. -/
def rlAll (n : Nat) (L : Lims) : Nat → Row
  | 0 => fun _ => 2147483647
  | k + 1 => if L.b k < rlAll n L k (posL n L k) then updR (rlAll n L k) (posL n L k) (L.b k) else rlAll n L k
theorem rl_le (n : Nat) (L : Lims) (k : Nat) (p : Nat) : rlAll n L k p ≤ 2147483647 := by
  induction k with
  | zero => exact Int.le_refl _
  | succ k ih =>
    unfold rlAll
    split
    · rename_i h
      unfold updR
      split
      · rename_i e
        subst e
        omega
      · exact ih
    · exact ih
theorem okAll_at {n : Nat} {L : Lims} {m : Nat} (h : okAll n L m = true) (k : Nat) (hk : k < m) : okL n L k = true := by
  induction m with
  | zero => omega
  | succ m ih =>
    simp only [okAll, Bool.and_eq_true] at h
    by_cases e : k = m
    · subst e; exact h.2
    · exact ih h.1 (by omega)
theorem okAll_le {n : Nat} {L : Lims} {m k : Nat} (h : okAll n L m = true) (hk : k ≤ m) : okAll n L k = true := by
  cases e : okAll n L k
  · rw [okAll_false m hk e] at h
    cases h
  · rfl
theorem okL_iff {n : Nat} {L : Lims} {k : Nat} (h : okL n L k = true) : (0 ≤ L.i k ∧ L.i k ≤ n) ∧ (0 ≤ L.j k ∧ L.j k ≤ n) ∧ rightB (L.b k) = true := by
  unfold okL at h
  simp only [Bool.and_eq_true, decide_eq_true_eq] at h
  exact ⟨⟨h.1.1, h.1.2.1⟩, ⟨h.1.2.2.1, h.1.2.2.2⟩, h.2⟩
theorem rl_right {n : Nat} {L : Lims} {k : Nat} (h : okAll n L k = true) (p : Nat) : rightB (rlAll n L k p) = true := by
  induction k with
  | zero => rfl
  | succ k ih =>
    have ih := ih (okAll_le h (by omega))
    have r := (okL_iff (okAll_at h k (by omega))).2.2
    unfold rlAll
    split
    · unfold updR
      split
      · exact r
      · exact ih
    · exact ih
theorem tl_at {n : Nat} {L : Lims} {k : Nat} (h : okAll n L k = true) (r : Mat) (i j : Nat) :
    tlAll L k r i j = if i ≤ n ∧ j ≤ n then tgV (r i j) (rlAll n L k (i * (n + 1) + j)) else r i j := by
  induction k with
  | zero =>
    show r i j = _
    unfold rlAll tgV
    split
    · rw [if_pos rfl]
    · rfl
  | succ k ih =>
    have ih := ih (okAll_le h (by omega))
    obtain ⟨⟨i0, i1⟩, ⟨j0, j1⟩, rb⟩ := okL_iff (okAll_at h k (by omega))
    have le := rl_le n L k
    have bl : L.b k ≤ 2147483647 := by unfold rightB at rb; simp at rb; omega
    have st : tlAll L (k + 1) r i j = if i = (L.i k).toNat ∧ j = (L.j k).toNat then tgV (tlAll L k r i j) (L.b k) else tlAll L k r i j := by
      show tg (tlAll L k r) (L.i k).toNat (L.j k).toNat (L.b k) i j = _
      unfold tg tgV
      split
      · split <;> rfl
      · unfold upd
        split
        · rename_i e
          rw [e.1, e.2]
        · rfl
    have rs : rlAll n L (k + 1) = if L.b k < rlAll n L k (posL n L k) then updR (rlAll n L k) (posL n L k) (L.b k) else rlAll n L k := rfl
    rw [st, ih]
    by_cases q : i ≤ n ∧ j ≤ n
    · rw [if_pos q, if_pos q]
      by_cases e : i = (L.i k).toNat ∧ j = (L.j k).toNat
      · rw [if_pos e, tgV_two _ _ _ (le _) bl]
        congr 1
        rw [rs, show posL n L k = i * (n + 1) + j by unfold posL; rw [← e.1, ← e.2]]
        split
        · unfold updR
          rw [if_pos rfl]
          omega
        · omega
      · rw [if_neg e]
        congr 1
        rw [rs]
        split
        · unfold updR
          rw [if_neg]
          intro e'
          unfold posL at e'
          have := pos_inj (n := n) q.2 (by omega) e'
          exact e this
        · rfl
    · rw [if_neg q, if_neg q, if_neg (by rintro ⟨a, b⟩; exact q ⟨by omega, by omega⟩)]
/-- Both drafts are one. -/
theorem lims_same {n : Nat} {L : Lims} {k m : Nat} (hm : m = (n + 1) * (n + 1)) (h : okAll n L k = true) : tgAll n (listOf (rlAll n L k) m) m (startR n (n + 1) 0) = tlAll L k (startR n (n + 1) 0) := by
  funext i j
  rw [tgAll_at _ _ _ _ (by omega), tl_at h]
  by_cases q : i ≤ n ∧ j ≤ n
  · have lt : i * (n + 1) + j < m := by rw [hm]; exact pos_lt q.1 q.2
    rw [if_pos ⟨q.1, q.2, lt⟩, if_pos q, listOf_get _ _ _ lt]
  · rw [if_neg q, if_neg (by rintro ⟨a, b, _⟩; exact q ⟨a, b⟩)]
end Go.Proofs.YtdkolgndebkloaaGreatDoor

/-
  The document's Infs and Limits.
-/
namespace Go.Proofs.YtdkolgndebkloaaGreatDoor
open Go.RowKit
set_option linter.unusedVariables false
set_option maxRecDepth 100000
theorem rep_next (k : Nat) (x : Value) : List.replicate (k + 1) x = List.replicate k x ++ [x] := List.replicate_succ'
set_option maxHeartbeats 2000000 in
theorem rinfs_any (n m : Nat) (w : World) (hn : n ≤ 8) (hm : m = (n + 1) * (n + 1)) :
    Calls Tryz.prog 55 #[.int .i64 n] w fun e w' => (∃ g cap, e = .returned (.slice (some ⟨g, 0, none⟩) m cap) ∧ w.heap.size ≤ g ∧ g < w'.heap.size ∧ (∀ p, p < m → w'.cell? ⟨g, p, none⟩ = some (.int .i32 2147483647)) ∧ ∀ p, w'.frozen? ⟨g, p, none⟩ = false) ∧ Below w.heap.size w w' := by
  have mp : 0 < m := by rw [hm]; exact Nat.mul_pos (by omega) (by omega)
  have m81 : m ≤ 81 := by rw [hm]; exact Nat.mul_le_mul (show n + 1 ≤ 9 by omega) (show n + 1 ≤ 9 by omega)
  obtain ⟨i0, hi0, hz0, hz1, hz2⟩ := info_parts info_bd
  have e0 : IntKind.i64.wrap ((n : Int) + 1) = (n : Int) + 1 := by rw [IntKind.wrap_i64]; omega
  have e1 : IntKind.i64.wrap (((n : Int) + 1) * ((n : Int) + 1)) = (m : Int) := by
    have : ((n : Int) + 1) * ((n : Int) + 1) = (((n + 1) * (n + 1) : Nat) : Int) := by simp
    rw [this, ← hm, IntKind.wrap_i64]
    omega
  clear hm
  have m1 : (m : Int) ≤ 81 := by omega
  go_enter Tryz.func55, Tryz.ntmps55
  go_wp2_with fail
  go_loopw [3, 4] (fun v i wr => ∃ k : Nat, k ≤ m ∧ i = .int .i64 k ∧ Hid (wr.ownsRow w.heap.size 47 1 v k (List.replicate k (.int .i32 2147483647))) ∧ Hid (Below w.heap.size w wr)) (fun _ i _ => m - (intOf i).toNat)
  case atStart => exact ⟨0, Nat.zero_le _, rfl, World.ownsRow_nil _ _ _ _, Below.refl _ _⟩
  case round =>
    obtain ⟨k, hk, rfl, hown, hB⟩ := hrel
    by_cases hlt : k < m
    · have hsz := hB.out.size
      have k1 : (k : Int) < (m : Int) := by omega
      have HN : Hid (∀ j u, [Value.int .i32 2147483647][j]? = some u → (wr.alloc (.cells #[.int .i32 2147483647] 47)).cell? ((⟨wr.heap.size, 0, none⟩ : Addr).add j) = some u) := by
        intro j u hj
        match j, hj with
        | 0, hj => simp at hj; subst hj; simp [Addr.add]
      go_wp2_with (at_builtin; refine wpList_append_own _ rfl _ _ 22 rfl w.heap.size 47 i0 (.int .i32 0) 1 4 Tryz.underlying22 hi0 hz0 hz1 hz2 rfl (by decide) _ k (List.replicate k (.int .i32 2147483647)) rfl (hown.out.alloc _) ⟨wr.heap.size, 0, none⟩ 1 1 [.int .i32 2147483647] rfl rfl HN.out (fun u hu => by simp at hu; subst hu; rfl) (by unfold maxLen; omega) (by omega) (by simp; omega) ?_; intro v' w1 hown' hgrow hnil)
      have hb1 : Below w.heap.size w w1 := (hB.out.alloc hsz _).grown hgrow (by simp; omega) (by intro q hq; exact (hown.out.lt q hq).1)
      have hb2 := hideD hb1
      have nx' : Hid (w1.ownsRow w.heap.size 47 1 v' (k + 1) (List.replicate (k + 1) (.int .i32 2147483647))) := by
        show w1.ownsRow _ _ _ _ _ _
        rw [rep_next]
        exact hown'
      clear hown' hgrow hnil hb1 hown HN
      go_wp2_with fail
      go_roundw
      case rel => exact ⟨k + 1, by omega, by go_num, nx', hb2⟩
      case measure => simp [intOf]; omega
    · obtain rfl : k = m := by omega
      have ho := hown.out
      obtain ⟨m', rfl⟩ : ∃ m', k = m' + 1 := ⟨k - 1, by omega⟩
      obtain ⟨g, cap, rfl⟩ := own_form ho
      have lt := ho.lt g rfl
      have HC : Hid (∀ p, p < m' + 1 → wr.cell? ⟨g, p, none⟩ = some (.int .i32 2147483647)) := fun p hp => by
        rw [ho.cellAt p (by omega)]
        simp [hp]
      have HF : Hid (∀ p, wr.frozen? ⟨g, p, none⟩ = false) := fun p => ho.frozenAt p
      have k2 : ¬ ((m' : Int) + 1 < (m' : Int) + 1) := by omega
      clear ho hown hlt
      go_wp2_with fail
      go_ret
      refine ⟨?_, hB.out⟩
      exact ⟨g, ⟨cap, rfl⟩, lt.1, lt.2, HC.out, HF.out⟩
set_option maxHeartbeats 4000000 in
theorem rlimits_main (n cb off cap m : Nat) (L : Lims) (w : World) (h : n ≤ 8) (hm : m = (n + 1) * (n + 1)) (hR : LimRow w cb off L) (hcb : cb < w.heap.size) (hi : ∀ k, k < L.q → -2147483648 ≤ L.b k ∧ L.b k ≤ 2147483647) (hq : L.q ≤ 9223372036854775807) :
    Calls Tryz.prog 22 #[.int .i64 n, .slice (some ⟨cb, off, none⟩) L.q cap] w fun e w' => Below w.heap.size w w' ∧
      ((okAll n L L.q = false ∧ e = errOf 7) ∨ (okAll n L L.q = true ∧ ∃ B', RZoneOut w' B' n e ((zoneR n (tlAll L L.q (startR n (n + 1) 0))).map (fun c => listOf c m)))) := by
  have mp : 0 < m := by rw [hm]; exact Nat.mul_pos (by omega) (by omega)
  have m81 : m ≤ 81 := by rw [hm]; exact Nat.mul_le_mul (show n + 1 ≤ 9 by omega) (show n + 1 ≤ 9 by omega)
  have IN := hideD (rinfs_any n m w h hm)
  have LT : Hid (∀ i j, i ≤ n → j ≤ n → i * (n + 1) + j < m) := fun i j hi hj => by rw [hm]; exact pos_lt hi hj
  have OF : Hid (okAll n L L.q = true → ∀ g cap w', (∀ p, p < m → w'.cell? ⟨g, p, none⟩ = some (.int .i32 (rlAll n L L.q p))) → Calls Tryz.prog 18 #[.int .i64 n, .slice (some ⟨g, 0, none⟩) m cap] w' fun e w'' => RZoneOut w'' w'.heap.size n e ((zoneR n (tlAll L L.q (startR n (n + 1) 0))).map (fun c => listOf c m)) ∧ Below w'.heap.size w' w'') := fun ok g cap w' hc => by
    have ll := listOf_len (rlAll n L L.q) m
    have rr := rl_right ok
    have hR' : RowAt w' g 0 (listOf (rlAll n L L.q) m) := fun p hp => by
      rw [ll] at hp
      rw [Nat.zero_add, hc p hp, listOf_get _ _ _ hp]
    have hi' : ∀ j, j < (listOf (rlAll n L L.q) m).length → -2147483648 ≤ (listOf (rlAll n L L.q) m).getD j 0 ∧ (listOf (rlAll n L L.q) m).getD j 0 ≤ 2147483647 := fun j hj => by
      rw [listOf_get _ _ _ (by omega)]
      have := rr j
      unfold rightB at this
      simp at this
      omega
    have P := rof_main n g 0 cap (listOf (rlAll n L L.q) m) w' h (by omega) hR' hi'
    have os := of_same n (listOf (rlAll n L L.q) m) (by omega) (fun j hj => (hi' j (by omega)).2)
    rw [ll] at P os
    rw [lims_same hm ok, ← hm] at os
    refine P.mono ?_
    rintro e w'' ⟨hb, ⟨h1, -⟩ | ⟨-, h1⟩⟩
    · exfalso
      rw [allRight_of _ _ (fun j hj => by rw [listOf_get _ _ _ hj]; exact rr j)] at h1
      cases h1
    · rw [os] at h1
      exact ⟨h1, hb⟩
  have HR := hideD hR
  have HI := hideD hi
  clear hR hi hm
  generalize (zoneR n (tlAll L L.q (startR n (n + 1) 0))).map (fun c => listOf c m) = Z at *
  generalize em : L.q = q at *
  have EM := hideD em
  clear em
  have m1 : (m : Int) ≤ 81 := by omega
  have q1 : (q : Int) ≤ 9223372036854775807 := by omega
  go_enter Tryz.func22, Tryz.ntmps22
  go_wp2_with fail
  refine IN.out.mono ?_
  rintro e w1 ⟨⟨g, capg, rfl, lg, lt, hc, hf⟩, hb⟩
  have HC : Hid (∀ p, p < m → w1.cell? ⟨g, p, none⟩ = some (.int .i32 (rlAll n L 0 p))) := hc
  have HF := hideD hf
  have B1 := hideD hb
  clear hc hf hb IN
  go_wp2_with fail
  go_loopw [7] (fun s wr => ∃ (K : Nat), K ≤ q ∧ s = .int .i64 K ∧ Hid (okAll n L K = true) ∧ Hid (∀ p, p < m → wr.cell? ⟨g, p, none⟩ = some (.int .i32 (rlAll n L K p))) ∧ Hid (∀ p, wr.frozen? ⟨g, p, none⟩ = false) ∧ Hid (Below w.heap.size w wr) ∧ Hid (g < wr.heap.size)) (fun s _ => q - (intOf s).toNat)
  case atStart => exact ⟨0, by omega, rfl, rfl, HC, HF, B1, lt⟩
  case round =>
    obtain ⟨K, hK, rfl, hq', HC, HF, hB, lg2⟩ := hrel
    by_cases ck : K < q
    · obtain ⟨c1, c2, c3⟩ := (HR.out.later hB.out hcb) K (by rw [EM.out]; exact ck)
      obtain ⟨x0, x1⟩ := HI.out K ck
      have st : Hid (okAll n L (K + 1) = (decide (0 ≤ L.i K ∧ L.i K ≤ n ∧ 0 ≤ L.j K ∧ L.j K ≤ n) && rightB (L.b K))) := by show okAll n L (K + 1) = _; rw [okAll, hq'.out, Bool.true_and]; rfl
      have nx : Hid (rlAll n L (K + 1) = if L.b K < rlAll n L K ((L.i K).toNat * (n + 1) + (L.j K).toNat) then updR (rlAll n L K) ((L.i K).toNat * (n + 1) + (L.j K).toNat) (L.b K) else rlAll n L K) := rfl
      have i0 : (0 : Int) ≤ (K : Int) := by omega
      have i1 : (K : Int) < (q : Int) := by omega
      have RT : Hid (∀ w, Calls Tryz.prog 44 #[.int .i32 (L.b K)] w fun e w' => e = .returned (.bool (rightB (L.b K))) ∧ w' = w) := fun w => rright_any _ w x0 x1
      have FA : Hid (decide (0 ≤ L.i K ∧ L.i K ≤ n ∧ 0 ≤ L.j K ∧ L.j K ≤ n) = false ∨ rightB (L.b K) = false → okAll n L q = false) := fun h => okAll_false (k := K + 1) q (by omega) (st.out.trans (by rcases h with h | h <;> rw [h] <;> simp))
      have b2 := below_one wr (.cells #[.int .i64 (L.i K), .int .i64 (L.j K), .int .i32 (L.b K)] 49)
      generalize L.i K = x at *
      generalize L.j K = y at *
      generalize L.b K = z at *
      by_cases p1 : x < 0
      · have F1 := hideD (FA.out (.inl (decide_eq_false (by omega))))
        go_wp2_with fail
        refine bodyPost_ret (v := .tuple #[.pointer none, .int .i64 7]) (by simp [results, Tryz.results22, go_sem]) rfl ⟨beyondD hB.out b2, .inl ⟨F1.out, rfl⟩⟩
      · by_cases p2 : (n : Int) < x
        · have F1 := hideD (FA.out (.inl (decide_eq_false (by omega))))
          go_wp2_with fail
          refine bodyPost_ret (v := .tuple #[.pointer none, .int .i64 7]) (by simp [results, Tryz.results22, go_sem]) rfl ⟨beyondD hB.out b2, .inl ⟨F1.out, rfl⟩⟩
        · by_cases p3 : y < 0
          · have F1 := hideD (FA.out (.inl (decide_eq_false (by omega))))
            go_wp2_with fail
            refine bodyPost_ret (v := .tuple #[.pointer none, .int .i64 7]) (by simp [results, Tryz.results22, go_sem]) rfl ⟨beyondD hB.out b2, .inl ⟨F1.out, rfl⟩⟩
          · by_cases p4 : (n : Int) < y
            · have F1 := hideD (FA.out (.inl (decide_eq_false (by omega))))
              go_wp2_with fail
              refine bodyPost_ret (v := .tuple #[.pointer none, .int .i64 7]) (by simp [results, Tryz.results22, go_sem]) rfl ⟨beyondD hB.out b2, .inl ⟨F1.out, rfl⟩⟩
            · cases er : rightB z with
              | false =>
                rw [er] at RT
                have F1 := hideD (FA.out (.inr er))
                clear er
                go_wp2_with fail
                refine (RT.out _).mono ?_
                rintro e' w3 ⟨rfl, rfl⟩
                go_wp2_with fail
                refine bodyPost_ret (v := .tuple #[.pointer none, .int .i64 7]) (by simp [results, Tryz.results22, go_sem]) rfl ⟨beyondD hB.out b2, .inl ⟨F1.out, rfl⟩⟩
              | true =>
                rw [er] at RT
                have st3 : Hid (okAll n L (K + 1) = true) := st.out.trans (by rw [er, decide_eq_true (by omega)]; rfl)
                clear er st FA
                obtain ⟨X, rfl⟩ := Int.eq_ofNat_of_zero_le (show 0 ≤ x by omega)
                obtain ⟨Y, rfl⟩ := Int.eq_ofNat_of_zero_le (show 0 ≤ y by omega)
                rw [Int.toNat_natCast, Int.toNat_natCast] at nx
                have lt3 := LT.out X Y (by omega) (by omega)
                have e0 : IntKind.i64.wrap ((n : Int) + 1) = (n : Int) + 1 := by rw [IntKind.wrap_i64]; omega
                have e1 : IntKind.i64.wrap ((X : Int) * ((n : Int) + 1)) = ((X * (n + 1) : Nat) : Int) := by
                  have : (X : Int) * ((n : Int) + 1) = ((X * (n + 1) : Nat) : Int) := by simp
                  rw [this, IntKind.wrap_i64]
                  generalize X * (n + 1) = z at *
                  omega
                have r1 := HC.out _ lt3
                have f3 := HF.out (X * (n + 1) + Y)
                generalize hP : X * (n + 1) = P at *
                have e2 : IntKind.i64.wrap ((P : Int) + (Y : Int)) = (P : Int) + (Y : Int) := by rw [IntKind.wrap_i64]; omega
                have e8 : (0 : Int) ≤ (P : Int) + (Y : Int) := by omega
                have e9 : ((P : Int) + (Y : Int)).toNat = P + Y := by omega
                have e5 : (P : Int) + (Y : Int) < (m : Int) := by omega
                go_wp2_with fail
                refine (RT.out _).mono ?_
                rintro e' w3 ⟨rfl, rfl⟩
                go_upto_region 10 with (fail)
                have f0 : (wr.alloc (.cells #[.int .i64 X, .int .i64 Y, .int .i32 z] 49)).cell? ⟨wr.heap.size, 0, none⟩ = some (.int .i64 X) := by simp [go_sem]
                have f1 : (wr.alloc (.cells #[.int .i64 X, .int .i64 Y, .int .i32 z] 49)).cell? ⟨wr.heap.size, 1, none⟩ = some (.int .i64 Y) := by simp [go_sem]
                have f2 : (wr.alloc (.cells #[.int .i64 X, .int .i64 Y, .int .i32 z] 49)).cell? ⟨wr.heap.size, 2, none⟩ = some (.int .i32 z) := by simp [go_sem]
                have s1 := kc _ _ b2 r1
                have s3 := kf _ _ b2 r1 f3
                have HC2 : Hid (∀ p, p < m → (wr.alloc (.cells #[.int .i64 X, .int .i64 Y, .int .i32 z] 49)).cell? ⟨g, p, none⟩ = some (.int .i32 (rlAll n L K p))) := fun p hp => kc _ _ b2 (HC.out p hp)
                have HF2 : Hid (∀ p, (wr.alloc (.cells #[.int .i64 X, .int .i64 Y, .int .i32 z] 49)).frozen? ⟨g, p, none⟩ = false) := fun p => (b2.frozen (p := ⟨g, p, none⟩) lg2.out).trans (HF.out p)
                have hB2 := hideD (beyondD hB.out b2)
                have lg3 : Hid (g < (wr.alloc (.cells #[.int .i64 X, .int .i64 Y, .int .i32 z] 49)).heap.size) := by
                  have := lg2.out
                  have := b2.size
                  show g < _
                  omega
                generalize wr.alloc (.cells #[.int .i64 X, .int .i64 Y, .int .i32 z] 49) = W2 at *
                generalize wr.heap.size = B at *
                clear b2 HC HF hB r1 f3 c1 c2 c3 lg2 hP
                generalize hy : rlAll n L K (P + Y) = v at *
                have HY := hideD hy
                clear hy
                by_cases cz : z < v
                · rw [if_pos cz] at nx
                  have RN : Hid (∀ k p, p < m → ((W2.drewN k).setCell ⟨g, P + Y, none⟩ (.int .i32 z)).cell? ⟨g, p, none⟩ = some (.int .i32 (rlAll n L (K + 1) p))) := fun k p hp => by
                    rw [nx.out]
                    unfold updR
                    by_cases qq : p = P + Y
                    · subst qq
                      rw [World.cell?_setCell_same _ _ _ (show (W2.drewN k).cell? ⟨g, P + Y, none⟩ = _ from HC2.out _ hp), if_pos rfl]
                    · rw [World.cell?_setCell_other _ _ _ _ (by intro e; injection e; omega), if_neg qq]
                      exact HC2.out p hp
                  have FN : Hid (∀ k p, ((W2.drewN k).setCell ⟨g, P + Y, none⟩ (.int .i32 z)).frozen? ⟨g, p, none⟩ = false) := fun k p => by
                    rw [World.frozen?_setCell]
                    exact HF2.out p
                  have BN : Hid (∀ k, Below w.heap.size w ((W2.drewN k).setCell ⟨g, P + Y, none⟩ (.int .i32 z))) := fun k => Below.setCell (p := ⟨g, P + Y, none⟩) (below_drewN hB2.out k) lg _
                  have LN : Hid (∀ k, g < ((W2.drewN k).setCell ⟨g, P + Y, none⟩ (.int .i32 z)).heap.size) := fun k => by
                    rw [World.size_setCell]
                    exact lg3.out
                  go_quiet (fail)
                  go_wp2_with fail
                  go_roundw
                  case rel => exact ⟨K + 1, by omega, by go_num, st3, RN.out _, FN.out _, BN.out _, LN.out _⟩
                  case measure => simp [intOf]; omega
                · rw [if_neg cz] at nx
                  go_quiet (fail)
                  go_wp2_with fail
                  go_roundw
                  case rel => exact ⟨K + 1, by omega, by go_num, st3, by rw [nx.out]; exact HC2, HF2, below_drewN hB2.out _, lg3⟩
                  case measure => simp [intOf]; omega
    · have stq : Hid (K = q) := by show K = q; omega
      have ok : Hid (okAll n L q = true) := by have e := stq.out; subst e; exact hq'
      have O := hideD (OF.out ok.out g capg wr (by have e := stq.out; subst e; exact HC.out))
      clear HC HF
      go_wp2_with fail
      refine O.out.mono ?_
      rintro e' w3 ⟨hz, hb⟩
      have hB3 := hideD (beyondD hB.out hb)
      clear O OF hb
      cases Z with
      | none =>
        obtain rfl := hz
        go_wp2_with fail
        exact bodyPost_ret (v := .tuple #[.pointer none, .int .i64 10]) (by simp [results, Tryz.results22, go_sem]) rfl ⟨hB3.out, .inr ⟨ok.out, 0, rfl⟩⟩
      | some l =>
        obtain ⟨b', rfl, hz⟩ := hz
        have HZ := hideD hz
        clear hz
        go_wp2_with fail
        exact bodyPost_ret (v := .tuple #[.pointer (some ⟨b', 0, none⟩), .int .i64 0]) (by simp [results, Tryz.results22, go_sem]) rfl ⟨hB3.out, .inr ⟨ok.out, _, b', rfl, HZ.out⟩⟩
end Go.Proofs.YtdkolgndebkloaaGreatDoor

/-
  The document's Limits without limits, Universe, Zero; rows of limits as cells; Dim and Empty.
-/
namespace Go.Proofs.YtdkolgndebkloaaGreatDoor
open Go.RowKit
set_option linter.unusedVariables false
set_option maxRecDepth 100000
/-! ### Rows of limits, cell by cell -/
def cv (L : Lims) (j : Nat) : Value := if j % 3 = 0 then .int .i64 (L.i (j / 3)) else if j % 3 = 1 then .int .i64 (L.j (j / 3)) else .int .i32 (L.b (j / 3))
def fl (L : Lims) (q : Nat) : List Value := (List.range (3 * q)).map (cv L)
theorem fl_len (L : Lims) (q : Nat) : (fl L q).length = 3 * q := by simp [fl]
theorem fl_get (L : Lims) (q j : Nat) (h : j < 3 * q) : (fl L q)[j]? = some (cv L j) := by simp [fl, h]
theorem cv0 (L : Lims) (k : Nat) : cv L (k * 3) = .int .i64 (L.i k) := by
  unfold cv
  rw [if_pos (by omega), show k * 3 / 3 = k by omega]
theorem cv1 (L : Lims) (k : Nat) : cv L (k * 3 + 1) = .int .i64 (L.j k) := by
  unfold cv
  rw [if_neg (by omega), if_pos (by omega), show (k * 3 + 1) / 3 = k by omega]
theorem cv2 (L : Lims) (k : Nat) : cv L (k * 3 + 2) = .int .i32 (L.b k) := by
  unfold cv
  rw [if_neg (by omega), if_neg (by omega), show (k * 3 + 2) / 3 = k by omega]
theorem fl_next (L : Lims) (q : Nat) : fl L (q + 1) = fl L q ++ [.int .i64 (L.i q), .int .i64 (L.j q), .int .i32 (L.b q)] := by
  have e0 := cv0 L q
  have e1 := cv1 L q
  have e2 := cv2 L q
  unfold fl
  rw [show 3 * (q + 1) = 3 * q + 1 + 1 + 1 by omega, List.range_succ, List.range_succ, List.range_succ]
  simp only [List.map_append, List.map_cons, List.map_nil, List.append_assoc, List.cons_append, List.nil_append]
  rw [show 3 * q = q * 3 by omega, e0, e1, show q * 3 + 1 + 1 = q * 3 + 2 by omega, e2]
theorem row_cells {w : World} {b off : Nat} {L : Lims} (h : LimRow w b off L) (j : Nat) (hj : j < 3 * L.q) : w.cell? ⟨b, off + j, none⟩ = some (cv L j) := by
  obtain ⟨a, b', c⟩ := h (j / 3) (by omega)
  have : j % 3 = 0 ∨ j % 3 = 1 ∨ j % 3 = 2 := by omega
  rcases this with r | r | r
  · rw [show off + j / 3 * 3 = off + j by omega] at a
    rw [a]; unfold cv; rw [if_pos r]
  · rw [show off + j / 3 * 3 + 1 = off + j by omega] at b'
    rw [b']; unfold cv; rw [if_neg (by omega), if_pos r]
  · rw [show off + j / 3 * 3 + 2 = off + j by omega] at c
    rw [c]; unfold cv; rw [if_neg (by omega), if_neg (by omega)]
theorem cells_row {w : World} {b off : Nat} {L : Lims} (h : ∀ j, j < 3 * L.q → w.cell? ⟨b, off + j, none⟩ = some (cv L j)) : LimRow w b off L := fun k hk =>
  ⟨by rw [h (k * 3) (by omega), cv0], by rw [Nat.add_assoc, h (k * 3 + 1) (by omega), cv1], by rw [Nat.add_assoc, h (k * 3 + 2) (by omega), cv2]⟩
theorem own_form3 {w : World} {base K : Nat} {E : TypeId} {v : Value} {xs : List Value} (h : w.ownsRow base E 3 v (K + 1) xs) : ∃ g cap, v = .slice (some ⟨g, 0, none⟩) (K + 1) cap := by
  rcases h.2 with ⟨_, h0⟩ | ⟨g, cap, cur, hv, _⟩
  · omega
  · exact ⟨g, cap, hv⟩
theorem info_lim : (Tryz.prog.info? 49).map (fun i => (i.zero, i.size, i.bytes)) = some (some (.agg #[.int .i64 0, .int .i64 0, .int .i32 0]), 3, 24) := by kernel_rfl
theorem info3 {P : Program} {e : TypeId} {z : Value} {s b : Nat} (h : (P.info? e).map (fun i => (i.zero, i.size, i.bytes)) = some (some z, s, b)) : ∃ i, P.info? e = some i ∧ i.zero = some z ∧ i.size = s ∧ i.bytes = b := by
  obtain ⟨i, hi, hz⟩ := Option.map_eq_some_iff.1 h
  simp only [Prod.mk.injEq] at hz
  exact ⟨i, hi, hz.1, hz.2.1, hz.2.2⟩
/-! ### The document's Limits without limits -/
def L0 : Lims := ⟨0, fun _ => 0, fun _ => 0, fun _ => 0⟩
theorem rlimits_clock (n : Int) (v : Value) (w : World) (h : ¬ (0 ≤ n ∧ n ≤ 8)) :
    Calls Tryz.prog 22 #[.int .i64 n, v] w fun e w' => e = errOf 12 ∧ w' = w := by
  by_cases c : n < 0
  · go_enter Tryz.func22, Tryz.ntmps22
    go_wp2_with fail
    refine bodyPost_ret (v := .tuple #[.pointer none, .int .i64 12]) (by simp [results, Tryz.results22, go_sem]) rfl ⟨rfl, rfl⟩
  · have c2 : 8 < n := by omega
    go_enter Tryz.func22, Tryz.ntmps22
    go_wp2_with fail
    refine bodyPost_ret (v := .tuple #[.pointer none, .int .i64 12]) (by simp [results, Tryz.results22, go_sem]) rfl ⟨rfl, rfl⟩
set_option maxHeartbeats 2000000 in
theorem rlimits_zero (n m cap : Nat) (ad : Option Addr) (w : World) (h : n ≤ 8) (hm : m = (n + 1) * (n + 1)) :
    Calls Tryz.prog 22 #[.int .i64 n, .slice ad 0 cap] w fun e w' => Below w.heap.size w w' ∧ ∃ B', RZoneOut w' B' n e ((zoneR n (startR n (n + 1) 0)).map (fun c => listOf c m)) := by
  have mp : 0 < m := by rw [hm]; exact Nat.mul_pos (by omega) (by omega)
  have m81 : m ≤ 81 := by rw [hm]; exact Nat.mul_le_mul (show n + 1 ≤ 9 by omega) (show n + 1 ≤ 9 by omega)
  have IN := hideD (rinfs_any n m w h hm)
  have OF : Hid (∀ g cap w', (∀ p, p < m → w'.cell? ⟨g, p, none⟩ = some (.int .i32 2147483647)) → Calls Tryz.prog 18 #[.int .i64 n, .slice (some ⟨g, 0, none⟩) m cap] w' fun e w'' => RZoneOut w'' w'.heap.size n e ((zoneR n (startR n (n + 1) 0)).map (fun c => listOf c m)) ∧ Below w'.heap.size w' w'') := fun g cap w' hc => by
    have ll := listOf_len (rlAll n L0 0) m
    have hR' : RowAt w' g 0 (listOf (rlAll n L0 0) m) := fun p hp => by
      rw [ll] at hp
      rw [Nat.zero_add, hc p hp, listOf_get _ _ _ hp]
      rfl
    have hi' : ∀ j, j < (listOf (rlAll n L0 0) m).length → -2147483648 ≤ (listOf (rlAll n L0 0) m).getD j 0 ∧ (listOf (rlAll n L0 0) m).getD j 0 ≤ 2147483647 := fun j hj => by
      rw [listOf_get _ _ _ (by omega)]
      show (-2147483648 : Int) ≤ 2147483647 ∧ (2147483647 : Int) ≤ 2147483647
      decide
    have P := rof_main n g 0 cap (listOf (rlAll n L0 0) m) w' h (by omega) hR' hi'
    have os := of_same n (listOf (rlAll n L0 0) m) (by omega) (fun j hj => (hi' j (by omega)).2)
    rw [ll] at P os
    rw [lims_same (L := L0) (k := 0) hm rfl, ← hm] at os
    refine P.mono ?_
    rintro e w'' ⟨hb, ⟨h1, -⟩ | ⟨-, h1⟩⟩
    · exfalso
      rw [allRight_of _ _ (fun j hj => by rw [listOf_get _ _ _ hj]; rfl)] at h1
      cases h1
    · rw [os] at h1
      exact ⟨h1, hb⟩
  clear hm
  generalize (zoneR n (startR n (n + 1) 0)).map (fun c => listOf c m) = Z at *
  go_enter Tryz.func22, Tryz.ntmps22
  go_wp2_with fail
  refine IN.out.mono ?_
  rintro e w1 ⟨⟨g, capg, rfl, lg, lt, hc, hf⟩, hb⟩
  have O := hideD (OF.out g capg w1 hc)
  have B1 := hideD hb
  clear hc hf hb IN OF
  go_wp2_with fail
  go_loopw [7] (fun s wr => s = .int .i64 0 ∧ wr = w1) (fun s _ => 1)
  case atStart => exact ⟨rfl, rfl⟩
  case round =>
    obtain ⟨rfl, rfl⟩ := hrel
    go_wp2_with fail
    refine O.out.mono ?_
    rintro e' w3 ⟨hz, hb⟩
    have hB3 := hideD (beyondD B1.out hb)
    clear O hb
    cases Z with
    | none =>
      obtain rfl := hz
      go_wp2_with fail
      exact bodyPost_ret (v := .tuple #[.pointer none, .int .i64 10]) (by simp [results, Tryz.results22, go_sem]) rfl ⟨hB3.out, 0, rfl⟩
    | some l =>
      obtain ⟨b', rfl, hz⟩ := hz
      have HZ := hideD hz
      clear hz
      go_wp2_with fail
      exact bodyPost_ret (v := .tuple #[.pointer (some ⟨b', 0, none⟩), .int .i64 0]) (by simp [results, Tryz.results22, go_sem]) rfl ⟨hB3.out, _, b', rfl, HZ.out⟩
theorem own_past {w w' : World} {base : Nat} {e : TypeId} {size n : Nat} {v : Value} {xs : List Value} (h : w.ownsRow base e size v n xs) (hb : Below w.heap.size w w') : w'.ownsRow base e size v n xs := by
  refine ⟨h.1, ?_⟩
  rcases h.2 with ⟨rfl, h0⟩ | ⟨g, cap, cur, rfl, h1, h2, h3⟩
  · exact .inl ⟨rfl, h0⟩
  · refine .inr ⟨g, cap, cur, rfl, h1, (hb.block g ?_).trans h2, h3⟩
    rcases Nat.lt_or_ge g w.heap.size with h' | h'
    · exact h'
    · simp [Array.getElem?_eq_none h'] at h2
def C32 (c : Row) : Prop := ∀ k, -2147483648 ≤ c k ∧ c k ≤ 2147483647
theorem narB_32 (x : Int) : -2147483648 ≤ narB x ∧ narB x ≤ 2147483647 := by
  unfold narB
  split
  · omega
  · split <;> omega
theorem zoneR_32 {n : Nat} {r : Mat} {c : Row} (h : zoneR n r = some c) : C32 c := by
  intro k
  unfold zoneR at h
  split at h
  · injection h with h
    subst h
    show -2147483648 ≤ (0 : Int) ∧ (0 : Int) ≤ 2147483647
    omega
  · split at h
    · injection h with h
      subst h
      show -2147483648 ≤ cellsUpto _ _ _ k ∧ cellsUpto _ _ _ k ≤ 2147483647
      unfold cellsUpto
      split
      · exact narB_32 _
      · omega
    · cases h
end Go.Proofs.YtdkolgndebkloaaGreatDoor
