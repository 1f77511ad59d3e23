/-
  dbm.Limits, of rows of limits.
-/
import Derived.Test.YteifpplemohdcaaGreatDoorQ12
import Derived.Deep.MidRow
import Derived.Laws.StructEq
import Derived.Test.YteifpplemohdcaaGreatDoorQ17
import Derived.Test.YteifpplemohdcaaGreatDoorQ31
import Derived.Test.YteifpplemohdcaaGreatDoorQ13
import Derived.Deep.Slices
import Derived.Deep.Strs
import Derived.ProofKit
import Derived.OpenShut
import Derived.Test.YteifpplemohdcaaGreatDoorQ15
import Derived.Deep.OwnRows
import Derived.Deep.RegionLaw
import Derived.Laws.OwnMore
import Derived.Laws.BitsLemmas
import Derived.Deep.QuietTactic
import Derived.BigQuiet
import Derived.Test.YteifpplemohdcaaGreatDoorQ28
import Derived.Lib.SmallJoins
namespace Go.Proofs.YteifpplemohdcaaGreatDoor
open Go.RowKit
set_option linter.unusedVariables false
set_option maxRecDepth 100000
theorem has_any (n : Nat) (i j : Int) (w : World) :
    Calls Tryz.prog 34 #[.agg #[.int .i64 n], .int .i64 i, .int .i64 j] w fun e w' => e = .returned (.bool (decide (0 ≤ i ∧ i ≤ n ∧ 0 ≤ j ∧ j ≤ n))) ∧ Below w.heap.size w w' := by
  by_cases c1 : 0 ≤ i
  · by_cases c2 : i ≤ n
    · by_cases c3 : 0 ≤ j
      · by_cases c4 : j ≤ n
        · rw [decide_eq_true ⟨c1, c2, c3, c4⟩]
          go_enter Tryz.func34, Tryz.ntmps34
          go_wp2_with fail
          first | (go_ret; exact ⟨by first | rfl | simp [*], below_one _ _⟩) | (go_quiet (fail); go_wp2_with fail; go_ret; exact ⟨by first | rfl | simp [*], below_drewN (below_one _ _) _⟩)
        · rw [decide_eq_false (by omega)]
          go_enter Tryz.func34, Tryz.ntmps34
          go_wp2_with fail
          first | (go_ret; exact ⟨by first | rfl | simp [*], below_one _ _⟩) | (go_quiet (fail); go_wp2_with fail; go_ret; exact ⟨by first | rfl | simp [*], below_drewN (below_one _ _) _⟩)
      · rw [decide_eq_false (by omega)]
        go_enter Tryz.func34, Tryz.ntmps34
        go_wp2_with fail
        first | (go_ret; exact ⟨by first | rfl | simp [*], below_one _ _⟩) | (go_quiet (fail); go_wp2_with fail; go_ret; exact ⟨by first | rfl | simp [*], below_drewN (below_one _ _) _⟩)
    · rw [decide_eq_false (by omega)]
      go_enter Tryz.func34, Tryz.ntmps34
      go_wp2_with fail
      first | (go_ret; exact ⟨by first | rfl | simp [*], below_one _ _⟩) | (go_quiet (fail); go_wp2_with fail; go_ret; exact ⟨by first | rfl | simp [*], below_drewN (below_one _ _) _⟩)
  · rw [decide_eq_false (by omega)]
    go_enter Tryz.func34, Tryz.ntmps34
    go_wp2_with fail
    first | (go_ret; exact ⟨by first | rfl | simp [*], below_one _ _⟩) | (go_quiet (fail); go_wp2_with fail; go_ret; exact ⟨by first | rfl | simp [*], below_drewN (below_one _ _) _⟩)
/-- A row of limits: of each its two numbers and its bound. -/
structure Lims where
  q : Nat
  i : Nat → Int
  j : Nat → Int
  b : Nat → Int
/-- One that may be. -/
def okLim (n : Nat) (L : Lims) (k : Nat) : Bool := decide (0 ≤ L.i k ∧ L.i k ≤ n ∧ 0 ≤ L.j k ∧ L.j k ≤ n) && rightB (L.b k)
def okAll (n : Nat) (L : Lims) : Nat → Bool
  | 0 => true
  | k + 1 => okAll n L k && okLim n L k
theorem okAll_false {n : Nat} {L : Lims} : ∀ {k : Nat} (m : Nat), k ≤ m → okAll n L k = false → okAll n L m = false := by
  intro k m h e
  induction m with
  | zero => obtain rfl : k = 0 := by omega
            exact e
  | succ m ih =>
    by_cases q : k = m + 1
    · subst q; exact e
    · simp [okAll, ih (by omega)]
def tlAll (L : Lims) : Nat → Mat → Mat
  | 0, r => r
  | k + 1, r => tg (tlAll L k r) (L.i k).toNat (L.j k).toNat (L.b k)
/-- They lie in memory, three cells each. -/
def LimRow (w : World) (b off : Nat) (L : Lims) : Prop := ∀ k, k < L.q → w.cell? ⟨b, off + k * 3, none⟩ = some (.int .i64 (L.i k)) ∧ w.cell? ⟨b, off + k * 3 + 1, none⟩ = some (.int .i64 (L.j k)) ∧ w.cell? ⟨b, off + k * 3 + 2, none⟩ = some (.int .i32 (L.b k))
theorem LimRow.later {w w' : World} {b off B : Nat} {L : Lims} (h : LimRow w b off L) (hb : Below B w w') (hB : b < B) : LimRow w' b off L := fun k hk =>
  ⟨(hb.cell (p := ⟨b, off + k * 3, none⟩) hB).trans (h k hk).1, (hb.cell (p := ⟨b, off + k * 3 + 1, none⟩) hB).trans (h k hk).2.1, (hb.cell (p := ⟨b, off + k * 3 + 2, none⟩) hB).trans (h k hk).2.2⟩
set_option maxHeartbeats 4000000 in
theorem limits_main (n cb off cap : Nat) (L : Lims) (w : World) (h : n ≤ 8) (hR : LimRow w cb off L) (hcb : cb < w.heap.size) (hi : ∀ k, k < L.q → -2147483648 ≤ L.b k ∧ L.b k ≤ 2147483647) (hq : L.q ≤ 9223372036854775807) :
    Calls Tryz.prog 17 #[.int .i64 n, .slice (some ⟨cb, off, none⟩) L.q cap] w fun e w' => Below w.heap.size w w' ∧
      ((okAll n L L.q = false ∧ e = errOf 7) ∨ (okAll n L L.q = true ∧ ZoneOut w' w.heap.size n e (zoneR n (tlAll L L.q (startR n (n + 1) 0))))) := by
  have H := hideD (mayYes n w h)
  have HD := hideD (draftOf_any n w h)
  have HR := hideD hR
  have HI := hideD hi
  have HZ : Hid (∀ b w, Draft w b n (tlAll L L.q (startR n (n + 1) 0)) → Calls Tryz.prog 37 #[.pointer (some ⟨b, 0, none⟩)] w fun e w' => ZoneOut w' w.heap.size n e (zoneR n (tlAll L L.q (startR n (n + 1) 0))) ∧ Below b w w') := fun b w hD => zone_any b n _ w h hD
  clear hR hi
  generalize em : L.q = m at *
  have EM := hideD em
  clear em
  have m1 : (m : Int) ≤ 9223372036854775807 := by omega
  go_enter Tryz.func17, Tryz.ntmps17
  go_wp2_with fail
  refine H.out.mono ?_
  rintro e w' ⟨rfl, rfl⟩
  go_wp2_with fail
  refine HD.out.mono ?_
  rintro e w1 ⟨rfl, hd, hb⟩
  have HD1 := hideD hd
  have HB1 := hideD hb
  clear hd hb H HD
  go_wp2_with fail
  go_loopw [16] (fun s wr => ∃ (K : Nat), K ≤ m ∧ s = .int .i64 K ∧ Hid (okAll n L K = true) ∧ Hid (Draft wr w'.heap.size n (tlAll L K (startR n (n + 1) 0))) ∧ Hid (Below w'.heap.size w' wr)) (fun s _ => m - (intOf s).toNat)
  case atStart => exact ⟨0, by omega, rfl, rfl, HD1, HB1⟩
  case round =>
    obtain ⟨K, hK, rfl, hq', hD, hB⟩ := hrel
    clear HD1 HB1
    by_cases ck : K < m
    · obtain ⟨c1, c2, c3⟩ := (HR.out.later hB.out hcb) K (by rw [EM.out]; exact ck)
      obtain ⟨x0, x1⟩ := HI.out K ck
      have st : Hid (okAll n L (K + 1) = (decide (0 ≤ L.i K ∧ L.i K ≤ n ∧ 0 ≤ L.j K ∧ L.j K ≤ n) && rightB (L.b K))) := by show okAll n L (K + 1) = _; rw [okAll, hq'.out, Bool.true_and]; rfl
      have nx : Hid (tlAll L (K + 1) (startR n (n + 1) 0) = tg (tlAll L K (startR n (n + 1) 0)) (L.i K).toNat (L.j K).toNat (L.b K)) := rfl
      have i0 : (0 : Int) ≤ (K : Int) := by omega
      have i1 : (K : Int) < (m : Int) := by omega
      have HH : Hid (∀ w, Calls Tryz.prog 34 #[.agg #[.int .i64 n], .int .i64 (L.i K), .int .i64 (L.j K)] w fun e w' => e = .returned (.bool (decide (0 ≤ L.i K ∧ L.i K ≤ n ∧ 0 ≤ L.j K ∧ L.j K ≤ n))) ∧ Below w.heap.size w w') := fun w => has_any n _ _ w
      have HB : Hid (∀ w, Calls Tryz.prog 35 #[.int .i32 (L.b K)] w fun e w' => e = .returned (.bool (rightB (L.b K))) ∧ w' = w) := fun w => right_any _ w
      have hc := hD.out.clocks
      generalize L.i K = x at *
      generalize L.j K = y at *
      generalize L.b K = z at *
      have b2 := below_one wr (.cells #[.int .i64 x, .int .i64 y, .int .i32 z] 43)
      go_upto_region 7 with (fail)
      have f0 : (wr.alloc (.cells #[.int .i64 x, .int .i64 y, .int .i32 z] 43)).cell? ⟨wr.heap.size, 0, none⟩ = some (.int .i64 x) := by simp [go_sem]
      have f1 : (wr.alloc (.cells #[.int .i64 x, .int .i64 y, .int .i32 z] 43)).cell? ⟨wr.heap.size, 1, none⟩ = some (.int .i64 y) := by simp [go_sem]
      have f2 : (wr.alloc (.cells #[.int .i64 x, .int .i64 y, .int .i32 z] 43)).cell? ⟨wr.heap.size, 2, none⟩ = some (.int .i32 z) := by simp [go_sem]
      have hD2 := hideD (hD.out.later b2 hD.out.lt)
      have hB2 := hideD (beyondD hB.out b2)
      have d0 := hD2.out.clocks
      generalize wr.alloc (.cells #[.int .i64 x, .int .i64 y, .int .i32 z] 43) = W2 at *
      generalize wr.heap.size = B at *
      clear b2 hD hB hc c1 c2 c3
      by_cases hin : 0 ≤ x ∧ x ≤ n ∧ 0 ≤ y ∧ y ≤ n
      · rw [decide_eq_true hin] at HH
        cases er : rightB z with
        | false =>
          rw [er] at HB
          have st3 : Hid (okAll n L m = false) := okAll_false (k := K + 1) m (by omega) (st.out.trans (by rw [er, Bool.and_false]))
          clear er st hin
          go_cut [35] (fun t w2 => t = .bool true ∧ Below W2.heap.size W2 w2)
          case first =>
            first
            | go_region_with
              (first
              | (go_at_call 34; refine (HH.out _).mono ?_; rintro e' w3 ⟨rfl, hb⟩; have s2 := kc ⟨B, 2, none⟩ (.int .i32 z) hb (by first | exact f2); have hX := beyondD (w := W2) (by first | with_reducible exact Below.drew (Below.refl _ _) | with_reducible exact Below.refl _ _) hb; clear hb)
              | (go_at_call 35; refine (HB.out _).mono ?_; rintro e' w4 ⟨rfl, rfl⟩))
            | fail
            all_goals go_wp2_with fail
            all_goals go_meet
            all_goals exact ⟨rfl, by assumption⟩
          case rest =>
            obtain ⟨rfl, hb2⟩ := hcut
            go_wp2_with fail
            refine bodyPost_ret (v := .tuple #[.pointer none, .int .i64 7]) (by simp [results, Tryz.results17, go_sem]) rfl ⟨beyondD hB2.out hb2, .inl ⟨st3.out, rfl⟩⟩
        | true =>
          rw [er] at HB
          have st3 : Hid (okAll n L (K + 1) = true) := st.out.trans (by rw [er, decide_eq_true hin]; rfl)
          obtain ⟨p1, p2, p3, p4⟩ := hin
          clear er st
          obtain ⟨X, rfl⟩ := Int.eq_ofNat_of_zero_le p1
          obtain ⟨Y, rfl⟩ := Int.eq_ofNat_of_zero_le p3
          rw [Int.toNat_natCast, Int.toNat_natCast] at nx
          go_cut [35] (fun t w2 => t = .bool false ∧ Below W2.heap.size W2 w2)
          case first =>
            first
            | go_region_with
              (first
              | (go_at_call 34; refine (HH.out _).mono ?_; rintro e' w3 ⟨rfl, hb⟩; have s2 := kc ⟨B, 2, none⟩ (.int .i32 z) hb (by first | exact f2); have hX := beyondD (w := W2) (by first | with_reducible exact Below.drew (Below.refl _ _) | with_reducible exact Below.refl _ _) hb; clear hb)
              | (go_at_call 35; refine (HB.out _).mono ?_; rintro e' w4 ⟨rfl, rfl⟩))
            | fail
            all_goals go_wp2_with fail
            all_goals go_meet
            all_goals exact ⟨rfl, by assumption⟩
          case rest =>
            obtain ⟨rfl, hb2⟩ := hcut
            have g0 := kc _ _ hb2 f0
            have g1 := kc _ _ hb2 f1
            have g2 := kc _ _ hb2 f2
            have hD3 := hideD (hD2.out.later hb2 hD2.out.lt)
            have hB3 := hideD (beyondD hB2.out hb2)
            have HT := hideD (tighten_any _ n X Y _ z _ hD3.out (by omega) (by omega) x0 x1)
            clear hb2 hD2 hB2 f0 f1 f2 d0
            go_wp2_with fail
            refine HT.out.mono ?_
            rintro e' w5 ⟨rfl, hd, hb⟩
            have hD5 := hideD hd
            have hB5 := hideD (hB3.out.trans hb)
            clear hd hb
            go_wp2_with fail
            go_roundw
            case rel => exact ⟨K + 1, by omega, by go_num, st3, by rw [nx.out]; exact hD5, hB5⟩
            case measure => simp [intOf]; omega
      · rw [decide_eq_false hin] at HH
        have st3 : Hid (okAll n L m = false) := okAll_false (k := K + 1) m (by omega) (st.out.trans (by rw [decide_eq_false hin, Bool.false_and]))
        clear st
        go_cut [35] (fun t w2 => t = .bool true ∧ Below W2.heap.size W2 w2)
        case first =>
          first
          | go_region_with
            (first
              | (go_at_call 34; refine (HH.out _).mono ?_; rintro e' w3 ⟨rfl, hb⟩; have s2 := kc ⟨B, 2, none⟩ (.int .i32 z) hb (by first | exact f2); have hX := beyondD (w := W2) (by first | with_reducible exact Below.drew (Below.refl _ _) | with_reducible exact Below.refl _ _) hb; clear hb)
              | (go_at_call 35; refine (HB.out _).mono ?_; rintro e' w4 ⟨rfl, rfl⟩))
          | fail
          all_goals go_wp2_with fail
          all_goals go_meet
          all_goals exact ⟨rfl, by assumption⟩
        case rest =>
          obtain ⟨rfl, hb2⟩ := hcut
          go_wp2_with fail
          refine bodyPost_ret (v := .tuple #[.pointer none, .int .i64 7]) (by simp [results, Tryz.results17, go_sem]) rfl ⟨beyondD hB2.out hb2, .inl ⟨st3.out, rfl⟩⟩
    · have st : Hid (K = m) := by show K = m; omega
      have hq'' : Hid (okAll n L m = true) := by have e := st.out; subst e; exact hq'
      have hD' : Hid (Draft wr w'.heap.size n (tlAll L m (startR n (n + 1) 0))) := by have e := st.out; subst e; exact hD
      have HZ' := hideD (HZ.out _ _ hD'.out)
      go_wp2_with fail
      refine HZ'.out.mono ?_
      rintro e' w3 ⟨hz, hb⟩
      have hB3 := hideD (hB.out.trans hb)
      have hsz := hB.out.size
      cases ez : zoneR n (tlAll L m (startR n (n + 1) 0)) with
      | none =>
        rw [ez] at hz
        obtain rfl := hz
        go_wp2_with fail
        exact bodyPost_ret (v := .tuple #[.pointer none, .int .i64 10]) (by simp [results, Tryz.results17, go_sem]) rfl ⟨hB3.out, .inr ⟨hq''.out, by rw [ez]; exact rfl⟩⟩
      | some c =>
        rw [ez] at hz
        obtain ⟨b', hb', rfl, hz⟩ := hz
        go_wp2_with fail
        exact bodyPost_ret (v := .tuple #[.pointer (some ⟨b', 0, none⟩), .int .i64 0]) (by simp [results, Tryz.results17, go_sem]) rfl ⟨hB3.out, .inr ⟨hq''.out, by rw [ez]; exact ⟨b', Nat.le_trans hsz hb', rfl, hz⟩⟩⟩
end Go.Proofs.YteifpplemohdcaaGreatDoor

/-
  live of the statements of point.
-/
namespace Go.Proofs.YteifpplemohdcaaGreatDoor
open Go.RowKit Go.Shelf
set_option linter.unusedVariables false
set_option maxRecDepth 100000
theorem narB_rightP (x : Int) : rightB (narB x) = true := by
  unfold narB rightB
  split
  · simp
  · split
    · simp
    · simp; omega
theorem zoneR_right {n : Nat} {r : Mat} {c : Row} (h : zoneR n r = some c) (j : Nat) : rightB (c j) = true := by
  unfold zoneR at h
  split at h
  · cases h
    rfl
  · split at h
    · cases h
      unfold cellsUpto
      split
      · exact narB_rightP _
      · rfl
    · cases h
theorem zoneR_zero {n : Nat} {r : Mat} {c : Row} (h : zoneR n r = some c) (j : Nat) (hj : (n + 1) * (n + 1) ≤ j) : c j = 0 := by
  unfold zoneR at h
  split at h
  · cases h
    rfl
  · split at h
    · cases h
      unfold cellsUpto
      rw [if_neg (by omega)]
    · cases h
def LVp : Lims := ⟨2, fun k => if k = 0 then 1 else 0, fun k => if k = 0 then 0 else 1, fun k => if k = 0 then 16 else -14⟩
def cX : Row := fun k => [1, -14, 16, 1].getD k 0
theorem lvp_zone : (zoneR 1 (tlAll LVp LVp.q (startR 1 (1 + 1) 0))).map (fun c => listOf c 4) = some [1, -14, 16, 1] := by kernel_rfl
theorem lvp_is : zoneR 1 (tlAll LVp LVp.q (startR 1 (1 + 1) 0)) = some cX := by
  cases e : zoneR 1 (tlAll LVp LVp.q (startR 1 (1 + 1) 0)) with
  | none => have h := lvp_zone; rw [e] at h; cases h
  | some c =>
    have h := lvp_zone
    rw [e] at h
    have h : listOf c 4 = [1, -14, 16, 1] := by simpa using h
    congr 1
    funext k
    by_cases hk : k < 4
    · rw [← listOf_get c 4 k hk, h]
      rfl
    · rw [zoneR_zero e k (by omega)]
      unfold cX
      rw [List.getD_eq_getElem?_getD, List.getElem?_eq_none (by simp; omega)]
      rfl
theorem cX_right (k : Nat) : rightB (cX k) = true := zoneR_right lvp_is k
theorem cX_unit : unitsF 1 cX 0 = 15 := by kernel_rfl
theorem new15 : newT 15 2 = (15, 2, 0) := by kernel_rfl
def L7 : Rats := ⟨1, fun _ => 7, fun _ => 1⟩
theorem in75 : inB 1 4 cX (gridL 1 (unitsF 1 cX) ((1 : Nat) + 1)) = true := by kernel_rfl
theorem fit7 : fitB L7 1 = true := by kernel_rfl
theorem del7 : delB 1 4 cX L7 = (spanV 0 1 1 1 false false false, true) := by kernel_rfl
set_option maxHeartbeats 4000000 in
theorem plive_any (w : World) : Calls Tryz.prog 7 #[] w fun e w' => e = .returned (.bool true) ∧ Below w.heap.size w w' := by
  have B0 := hideD (below_one w (.cells #[.int .i64 1, .int .i64 0, .int .i32 16, .int .i64 0, .int .i64 1, .int .i32 (-14)] 43))
  have HL := limits_main 1 w.heap.size 0 2 LVp (w.alloc (.cells #[.int .i64 1, .int .i64 0, .int .i32 16, .int .i64 0, .int .i64 1, .int .i32 (-14)] 43)) (by omega) (fun k hk => by
    rcases (show k = 0 ∨ k = 1 by have : k < 2 := hk; omega) with rfl | rfl <;> simp [go_sem, LVp]) (by simp) (fun k hk => by rcases (show k = 0 ∨ k = 1 by have : k < 2 := hk; omega) with rfl | rfl <;> simp [LVp]) (by show 2 ≤ 9223372036854775807; decide)
  rw [lvp_is] at HL
  have HL := hideD HL
  go_enter Tryz.func7, Tryz.ntmps7
  go_wp2_with fail
  refine HL.out.mono ?_
  rintro e w1 ⟨hb1, ⟨hbad, -⟩ | ⟨-, z, l1, rfl, hz⟩⟩
  · exfalso
    have : okAll 1 LVp LVp.q = true := by kernel_rfl
    rw [this] at hbad
    cases hbad
  have B1 := hideD (beyondD B0.out hb1)
  have H1 := hideD (leastP_any z 1 4 cX w1 (by omega) rfl hz cX_right (by decide) (fun k hk => by
    obtain rfl : k = 0 := by omega
    rw [cX_unit]
    exact congrArg (fun p => p.2.2) new15))
  have Z1 := hideD hz
  clear HL hb1 hz B0
  go_wp2_with fail
  refine H1.out.mono ?_
  rintro e w2 ⟨⟨ad, cp, rfl, hnil, hV, -⟩, hb2⟩
  obtain ⟨g, off, rfl, v0, v1⟩ := hV 0 (by show 0 < 1; omega)
  have V0 : w2.cell? ⟨g, off, none⟩ = some (.int .i64 15) := by
    rw [show (gridL 1 (unitsF 1 cX) (((1 : Nat) : Int) + 1)).n 0 = 15 by show (newT (unitsF 1 cX 0) 2).1 = 15; rw [cX_unit, new15]] at v0
    simpa using v0
  have V1 : w2.cell? ⟨g, off + 1, none⟩ = some (.int .i64 2) := by
    rw [show (gridL 1 (unitsF 1 cX) (((1 : Nat) : Int) + 1)).d 0 = 2 by show (newT (unitsF 1 cX 0) 2).2.1 = 2; rw [cX_unit, new15]] at v1
    simpa using v1
  have HN := hideD hnil
  have HV := hideD hV
  have B2 := hideD (beyondD B1.out hb2)
  have Z2 := hideD (Z1.out.past hb2)
  clear H1 hb2 hnil hV B1 Z1 v0 v1
  obtain ⟨w3, e3⟩ : ∃ w3, w3 = w2.alloc (.cells #[.int .i64 7, .int .i64 1] 33) := ⟨_, rfl⟩
  have bo := below_one w2 (.cells #[.int .i64 7, .int .i64 1] 33)
  rw [← e3] at bo
  have c70 : w3.cell? ⟨w2.heap.size, 0, none⟩ = some (.int .i64 7) := by rw [e3]; simp [go_sem]
  have c71 : w3.cell? ⟨w2.heap.size, 1, none⟩ = some (.int .i64 1) := by rw [e3]; simp [go_sem]
  have HD := callsIn_wide.1 (delays_in z 1 4 1 1 (some ⟨w2.heap.size, 0, none⟩) cX L7 w3 (by omega) rfl (Z2.out.past bo) rfl (fun h => by cases h) (fun k hk => by
    obtain rfl : k = 0 := by have : k < 1 := hk; omega
    exact ⟨w2.heap.size, 0, rfl, c70, c71⟩) (fun k hk => ⟨by show -9223372036854775808 ≤ (7 : Int) ∧ (7 : Int) ≤ 9223372036854775807; decide, by show -9223372036854775808 ≤ (1 : Int) ∧ (1 : Int) ≤ 9223372036854775807; decide⟩) fit7)
  rw [del7] at HD
  rw [e3] at HD
  have HD := hideD HD
  have B3 := hideD (beyondD B2.out bo)
  have Z3 := hideD (Z2.out.past bo)
  have HV3 := hideD (HV.out.later bo)
  have V0 := kc _ _ bo V0
  have V1 := kc _ _ bo V1
  rw [e3] at V0 V1
  have V0 := hideD V0
  have V1 := hideD V1
  clear bo c70 c71 HV Z2 B2
  subst e3
  go_wp2_with fail
  refine HD.out.mono ?_
  rintro e w4 ⟨rfl, hb4⟩
  have B4 := hideD (beyondD B3.out hb4)
  have Z4 := hideD (Z3.out.past hb4)
  have HV4 := hideD (HV3.out.later hb4)
  have V0' := hideD (kc _ _ hb4 V0.out)
  have V1' := hideD (kc _ _ hb4 V1.out)
  clear HD B3 Z3 HV3 V0 V1 hb4
  have bo := below_one w4 (.cells #[.int .i64 0, .int .i64 1, .int .i64 1, .int .i64 1, .bool false, .bool false, .bool false] 46)
  have HI := inP_any z 1 4 1 cp (some ⟨g, off, none⟩) cX (gridL 1 (unitsF 1 cX) (((1 : Nat) : Int) + 1)) _ (by omega) rfl (Z4.out.past bo) rfl (by decide) (fun h => by cases h) (HV4.out.later bo) (fun k hk => by
    obtain rfl : k = 0 := by have : k < 1 := hk; omega
    show I64 (newT (unitsF 1 cX 0) 2).1 ∧ I64 (newT (unitsF 1 cX 0) 2).2.1
    rw [cX_unit, new15]
    exact ⟨by decide, by decide⟩)
  rw [show inB 1 4 cX (gridL 1 (unitsF 1 cX) (((1 : Nat) : Int) + 1)) = true from in75] at HI
  have HI := hideD HI
  have V0 := kc _ _ bo V0'.out
  have V1 := kc _ _ bo V1'.out
  have B5 := hideD (beyondD B4.out bo)
  clear bo V0' V1' B4 Z4 HV4 HN
  go_wp2_with fail
  refine HI.out.mono ?_
  rintro e w5 ⟨rfl, hb5⟩
  have s2 := kc ⟨w4.heap.size, 2, none⟩ (.int .i64 1) hb5 (by simp [go_sem])
  have s3 := kc ⟨w4.heap.size, 3, none⟩ (.int .i64 1) hb5 (by simp [go_sem])
  have s4 := kc ⟨w4.heap.size, 4, none⟩ (.bool false) hb5 (by simp [go_sem])
  have s5 := kc ⟨w4.heap.size, 5, none⟩ (.bool false) hb5 (by simp [go_sem])
  have s6 := kc ⟨w4.heap.size, 6, none⟩ (.bool false) hb5 (by simp [go_sem])
  have B6 := hideD (beyondD B5.out hb5)
  clear HI hb5 V0 V1 B5
  go_wp2_with fail
  go_ret
  exact ⟨rfl, B6.out⟩
end Go.Proofs.YteifpplemohdcaaGreatDoor

/-
  Lists of fractions that are handed over, opened.
-/
namespace Go.Proofs.YteifpplemohdcaaGreatDoor
open Go.RowKit Go.Shelf
open Go.ChangeShapes Go.WideShapes Go.ChangeAt Go.Deep
set_option linter.unusedVariables false
theorem open_rats {H : Type} {enc : TypeId × Value → H} {P : Program} {w : World} {base : Nat} {spare : Nat → Bool} {held : Bool} {t e : TypeId} {f0 f1 : Field} {fuel : Nat} {cs : List Value} {x : DataW H × List MemPlace}
    (ht : P.underlying t = some (.slice e)) (he : P.underlying e = some (.struct #[f0, f1])) (ce : P.cellsOf e = 2) (o0 : f0.offset = 0) (o1 : f1.offset = 1) (c0 : P.cellsOf f0.type = 1) (c1 : P.cellsOf f1.type = 1)
    (u0 : P.underlying f0.type = some (.int .i64)) (u1 : P.underlying f1.type = some (.int .i64)) (h : DataW.trod enc P w base spare held fuel t cs = some x) :
    cs = [.slice none 0 0] ∨ ∃ (a : Addr) (len cap : Nat) (ds ss : List (DataW H)) (L : Rats), cs = [.slice (some a) len cap] ∧ L.q = len ∧ ds.length = len ∧ x.1 = .slice ds ss ∧
      ∀ k, k < len → w.cell? (a.add (k * 2)) = some (.int .i64 (L.n k)) ∧ w.cell? (a.add (k * 2 + 1)) = some (.int .i64 (L.d k)) ∧ (Lit.int .i64 (L.n k)).wf = true ∧ (Lit.int .i64 (L.d k)).wf = true := by
  rcases open_slice ht h with ⟨h0, _⟩ | ⟨a, len, cap, m, n, D, Pl, rfl, hb, hl, hm, hmm, hx', hx⟩
  · exact .inl h0
  · right
    have hlm : len ≤ m := by rw [hmm]; split <;> omega
    have each : ∀ i, i < len → ∃ q : Int × Int, w.cell? (a.add (i * 2)) = some (.int .i64 q.1) ∧ w.cell? (a.add (i * 2 + 1)) = some (.int .i64 q.2) ∧ (Lit.int .i64 q.1).wf = true ∧ (Lit.int .i64 q.2).wf = true := by
      intro i hi
      obtain ⟨cs', h1, h2⟩ := hx i (by omega)
      rw [ce] at h1
      obtain ⟨_, hlen, hcell⟩ := World.cells?_some h1
      obtain ⟨y0, y1, k, -, -, g0, g1⟩ := trod_struct2 he h2
      match cs', hlen with
      | [v0, v1], _ =>
        simp [o0, o1, c0, c1] at g0 g1
        obtain ⟨z0, e0, _, wf0⟩ := DataW.trod_int u0 g0
        obtain ⟨z1, e1, _, wf1⟩ := DataW.trod_int u1 g1
        have k0 := hcell 0 (by omega)
        have k1 := hcell 1 (by omega)
        rw [add_add] at k0 k1
        simp at e0 e1
        subst e0 e1
        exact ⟨(z0, z1), by simpa using k0, by simpa using k1, wf0, wf1⟩
    obtain ⟨q, hq⟩ := choose_lt each
    exact ⟨a, len, cap, (List.range len).map D, _, ⟨len, fun i => (q i).1, fun i => (q i).2⟩, rfl, rfl, by simp, by rw [hx'], fun k hk => hq k hk⟩
/-- A slice that holds them. -/
def RatS (w : World) (v : Value) (L : Rats) : Prop := ∃ ad cap, v = .slice ad L.q cap ∧ (ad = none → L.q = 0 ∧ cap = 0) ∧ RatV w ad L
end Go.Proofs.YteifpplemohdcaaGreatDoor

/-
  The document's zones as point asks of them; both of gnomonlaw06; gnomonmem.SameRats.
-/
namespace Go.Proofs.YteifpplemohdcaaGreatDoor
open Go.RowKit Go.Shelf
set_option linter.unusedVariables false
set_option maxRecDepth 100000

set_option maxRecDepth 100000 in
set_option maxHeartbeats 4000000 in
theorem same_rats (ad ad' : Option Addr) (cap cap' : Nat) (L : Rats) (w : World) (hV : RatV w ad L) (hV' : RatV w ad' L) (hq : L.q ≤ 9223372036854775807) :
    Calls Tryz.prog 10 #[.slice ad L.q cap, .slice ad' L.q cap'] w fun e w' => e = .returned (.bool true) ∧ Below w.heap.size w w' := by
  have HV := hideR hV
  have HV' := hideR hV'
  clear hV hV'
  generalize hm : L.q = m at *
  have HM := hideR hm
  clear hm
  have m0 : ((m : Int) == (m : Int)) = true := by simp
  have B0 := hideR (Below.refl w.heap.size w)
  go_enter Tryz.func10, Tryz.ntmps10
  go_wp2_with fail
  go_loopw [5] (fun s wr => ∃ (J : Nat), J ≤ m ∧ s = .int .i64 J ∧ Hid (Below w.heap.size w wr)) (fun s _ => m - (intOf s).toNat)
  case atStart => exact ⟨0, by omega, rfl, B0⟩
  case round =>
    obtain ⟨J, hJ, rfl, B⟩ := hrel
    clear B0
    by_cases cj : J < m
    · obtain ⟨b, off, rfl, d1, d2⟩ := HV.out J (by rw [HM.out]; exact cj)
      obtain ⟨b', off', rfl, f1, f2⟩ := HV'.out J (by rw [HM.out]; exact cj)
      have c1 := kc _ _ B.out d1
      have c2 := kc _ _ B.out d2
      have g1 := kc _ _ B.out f1
      have g2 := kc _ _ B.out f2
      have k0 : (0 : Int) ≤ (J : Int) := by omega
      have k1 : (J : Int) < (m : Int) := by omega
      clear d1 d2 f1 f2
      generalize L.n J = u at *
      generalize L.d J = v at *
      go_wp2_with fail
      go_quiet (fail)
      go_wp2_with fail
      go_roundw
      case rel => exact ⟨J + 1, by omega, by go_num, hideR (by first | exact B.out | exact Below.drew B.out | exact below_drewN B.out _)⟩
      case measure => simp [intOf]; omega
    · have e : J = m := by omega
      subst e
      have k1 : decide ((J : Int) < (J : Int)) = false := by simp
      go_wp2_with fail
      go_ret
      exact ⟨rfl, B.out⟩

end Go.Proofs.YteifpplemohdcaaGreatDoor

/-
  The walk of the statement PointTexts.
-/
namespace Go.Proofs.YteifpplemohdcaaGreatDoor
open Go.RowKit Go.Shelf
set_option linter.unusedVariables false
set_option maxRecDepth 100000
/-- What a text reads as, whoever reads it. -/
def PtIs (L : Rats) (k : Int) (w' : World) (e : Ending) : Prop := ∃ ad cap, e = .returned (.tuple #[.slice ad L.q cap, .int .i64 k]) ∧ Hid (RatV w' ad L)
theorem pt_form (l : List UInt8) : ∃ (L : Rats) (k : Int), RatI L ∧ L.q ≤ l.length + 1 ∧ (k = 0 → prtL L = l) ∧ (k ≠ 0 → L.q = 0) ∧ ∀ w' base e, PtOut w' base l e → PtIs L k w' e := by
  have z : RatI ⟨0, fun _ => 0, fun _ => 0⟩ := fun k hk => absurd hk (Nat.not_lt_zero _)
  have zV : ∀ W, RatV W none ⟨0, fun _ => 0, fun _ => 0⟩ := fun W k hk => absurd hk (Nat.not_lt_zero _)
  by_cases h : l = []
  · refine ⟨⟨0, fun _ => 0, fun _ => 0⟩, 0, z, by simp, fun _ => by rw [h]; rfl, fun e => absurd rfl e, fun w' base e ho => ?_⟩
    rcases ho with ⟨_, rfl⟩ | ⟨h', _⟩ | ⟨h', _⟩
    · exact ⟨none, 0, rfl, zV _⟩
    · exact absurd h h'
    · exact absurd h h'
  · by_cases g : GoodT l
    · refine ⟨ratsOf (pcs l), 0, ratsOf_I _, pcs_len l, fun _ => good_print g, fun e => absurd rfl e, fun w' base e ho => ?_⟩
      rcases ho with ⟨h', _⟩ | ⟨_, g', _⟩ | ⟨_, _, ad, cap, rfl, _, hV⟩
      · exact absurd h' h
      · exact absurd g g'
      · exact ⟨ad, cap, rfl, hV⟩
    · refine ⟨⟨0, fun _ => 0, fun _ => 0⟩, 7, z, by simp, fun e => absurd e (by decide), fun _ => rfl, fun w' base e ho => ?_⟩
      rcases ho with ⟨h', _⟩ | ⟨_, _, rfl⟩ | ⟨_, g', _⟩
      · exact absurd h' h
      · exact ⟨none, 0, rfl, zV _⟩
      · exact absurd g' g
set_option maxHeartbeats 4000000 in
theorem texts_raw (q cap : Nat) (ad : Option Addr) (L : Rats) (k : Int) (s p : ByteArray) (w : World) (hL : L.q ≤ 9223372036854775807)
    (H1 : Hid (∀ w', Below w.heap.size w w' → Calls Tryz.prog 5 #[.string s] w' fun e w'' => PtIs L k w'' e ∧ Below w'.heap.size w' w''))
    (H2 : Hid (∀ w', Below w.heap.size w w' → Calls Tryz.prog 6 #[.string s] w' fun e w'' => PtIs L k w'' e ∧ Below w'.heap.size w' w''))
    (H3 : Hid (∀ w', Below w.heap.size w w' → Calls Tryz.prog 8 #[.slice ad q cap] w' fun e w'' => e = .returned (.string p) ∧ Below w'.heap.size w' w''))
    (H4 : Hid (∀ w', Below w.heap.size w w' → Calls Tryz.prog 9 #[.slice ad q cap] w' fun e w'' => e = .returned (.string p) ∧ Below w'.heap.size w' w'')) :
    Calls Tryz.prog 3 #[.slice ad q cap, .string s] w fun e w' => e = .returned (.bool true) ∧ Below w.heap.size w w' := by
  have HV := hideR (fun w => plive_any w)
  have HS := hideR (fun a1 a2 c1 c2 W (h1 : RatV W a1 L) (h2 : RatV W a2 L) => same_rats a1 a2 c1 c2 L W h1 h2 hL)
  clear hL
  go_enter Tryz.func3, Tryz.ntmps3
  go_wp2_with fail
  refine (H1.out _ (Below.refl _ _)).mono ?_
  rintro e w1 ⟨⟨a1, c1, rfl, V1⟩, hb⟩
  have B1 := hideR hb
  have HB := hideR (H2.out _ hb)
  clear hb H1 H2
  go_wp2_with fail
  refine HB.out.mono ?_
  rintro e w2 ⟨⟨a2, c2, rfl, V2⟩, hb⟩
  have B2 := hideR (beyond B1.out hb)
  have HS2 := hideR (fun W (h : Below w2.heap.size w2 W) => HS.out a1 a2 c1 c2 W ((V1.out.later hb).later h) (V2.out.later h))
  have H3' := hideR (fun W (h : Below w2.heap.size w2 W) => H3.out W (beyond B2.out h))
  have H4' := hideR (fun W (h : Below w2.heap.size w2 W) => H4.out W (beyond B2.out h))
  clear hb HB H3 H4 HS V1 V2 B1
  have B3 := Below.refl w2.heap.size w2
  go_wp2_with fail
  have X := (HV.out w2)
  with_reducible refine X.mono ?_
  clear X
  rintro e w4 ⟨rfl, hb⟩
  have B4 := beyond B3 hb
  clear hb
  go_wp2_with fail
  have X := (H3'.out _ B4)
  with_reducible refine X.mono ?_
  clear X
  rintro e w5 ⟨rfl, hb⟩
  have B5 := beyond B4 hb
  clear hb
  go_wp2_with fail
  have X := (H4'.out _ B5)
  with_reducible refine X.mono ?_
  clear X
  rintro e w6 ⟨rfl, hb⟩
  have B6 := beyond B5 hb
  clear hb
  go_wp2_with fail
  have X := (HS2.out _ B6)
  with_reducible refine X.mono ?_
  clear X
  rintro e w7 ⟨rfl, hb⟩
  have B7 := beyond B6 hb
  clear hb
  go_wp2_with fail
  go_ret
  exact ⟨rfl, beyond B2.out B7⟩
theorem pointTexts.walk (v : Value) (L : Rats) (s : ByteArray) (hs : s.size ≤ maxLen) (w : World) (ht : Pow w) (he : Errs w) (hR : RatS w v L) (wf : ∀ k, k < L.q → (Lit.int .i64 (L.n k)).wf = true ∧ (Lit.int .i64 (L.d k)).wf = true) (hby : L.q * 16 ≤ 140737488355328) (hlim : s.size ≤ 140737488355328) (hup : s.size ≤ 1048576) :
    Calls Tryz.prog 3 #[v, .string s] w fun e w' => e = .returned (.bool true) ∧ Below w.heap.size w w' := by
  obtain ⟨ad, cap, rfl, hn, hV⟩ := hR
  have hI : RatI L := fun k hk => ⟨i64_wf (wf k hk).1, i64_wf (wf k hk).2⟩
  obtain ⟨M, k, mI, mq, _, _, hM⟩ := pt_form s.data.toList
  have sl : s.data.toList.length = s.size := by simp
  exact texts_raw L.q cap ad M k s _ w (by omega)
    (fun w' hb => (pparse_pt s w' hup (pow_later ht hb) (errs_later he hb)).mono fun e w'' ⟨h1, h2⟩ => ⟨hM _ _ _ h1, h2⟩)
    (fun w' hb => (yparse_pt s w' hup (pow_later ht hb)).mono fun e w'' ⟨h1, h2⟩ => ⟨hM _ _ _ h1, h2⟩)
    (fun w' hb => pprint_pt ad L.q cap L w' rfl (by omega) (hV.later hb) hI (pow_later ht hb))
    (fun w' hb => yprint_pt ad L.q cap L w' rfl (by omega) (hV.later hb) hI (pow_later ht hb))
end Go.Proofs.YteifpplemohdcaaGreatDoor
