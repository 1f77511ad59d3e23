/-
  The walk of the statement DbmKeys.
-/
import Derived.Test.YtdceldpcankcaaaKe
namespace Go.Proofs.Ytdceldpcankcaaa
open Go.RowKit
set_option linter.unusedVariables false
set_option maxRecDepth 100000
theorem keyI_range (n : Nat) (c : Row) (hn : n ≤ 8) (m : Nat) : ∀ z ∈ keyI n c m, 0 ≤ z ∧ z < 256 := by
  induction m with
  | zero => intro z hz; simp [keyI] at hz; omega
  | succ m ih =>
    intro z hz
    rw [keyI, List.mem_append] at hz
    rcases hz with hz | hz
    · exact ih z hz
    · simp [be4] at hz
      omega
theorem conv_key (n m g cap base : Nat) (c : Row) (hn : n ≤ 8) (w : World) (h : w.ownsRow base 5 1 (.slice (some ⟨g, 0, none⟩) (1 + 4 * m) cap) (1 + 4 * m) ((keyI n c m).map (Value.int .u8))) :
    (convert 30 9 (.slice (some ⟨g, 0, none⟩) (1 + 4 * m) cap)).run Try.prog w = .ok (.string ⟨(keyU (keyI n c m)).toArray⟩) w := by
  have hl : (keyU (keyI n c m)).length = 1 + 4 * m := by simp [keyU, keyI_len]
  have := run_convert_bytes_back (P := Try.prog) w 30 9 5 ⟨g, 0, none⟩ cap (keyU (keyI n c m)) (by kernel_rfl) (by kernel_rfl) (by kernel_rfl) (fun j hj => by
    rw [Addr.add_lit, Nat.zero_add, h.cellAt j (by omega)]
    have hj' : j < (keyI n c m).length := by rw [keyI_len]; omega
    have r := keyI_range n c hn m _ (List.getElem_mem hj')
    simp [keyU, hj']
    omega)
  rw [hl] at this
  exact this
set_option maxHeartbeats 4000000 in
theorem keys_walk (N m : Nat) (v1 v2 : Value) (c d : Row) (w : World) (N8 : N ≤ 8) (hm : m = (N + 1) * (N + 1)) (hr : ∀ j, j < m → (-2147483648 ≤ c j ∧ c j ≤ 2147483647) ∧ (-2147483648 ≤ d j ∧ d j ≤ 2147483647)) (hzz : ∀ j, m ≤ j → c j = d j)
    (H1 : Hid (Calls Try.prog 4 #[.int .i64 N, v1] w fun x w'' => Below w.heap.size w w'' ∧ ZoneOut w'' w.heap.size N x (some c)))
    (H2 : Hid (∀ w', Below w.heap.size w w' → Calls Try.prog 4 #[.int .i64 N, v2] w' fun x w'' => Below w'.heap.size w' w'' ∧ ZoneOut w'' w'.heap.size N x (some d))) :
    Calls Try.prog 3 #[.int .i64 N, v1, v2] w fun e w' => e = .returned (.bool true) ∧ Below w.heap.size w w' := by
  have mp : 0 < m := by rw [hm]; exact Nat.mul_pos (by omega) (by omega)
  have m81 : m ≤ 81 := by rw [hm]; exact Nat.mul_le_mul (show N + 1 ≤ 9 by omega) (show N + 1 ≤ 9 by omega)
  have CE : Hid (∀ w b e, ZoneAt w b N e → Calls Try.prog 6 #[.pointer (some ⟨b, 0, none⟩)] w fun x w' => (∃ v, x = .returned v ∧ OwnRow w' w.heap.size v (listOf e m)) ∧ Below w.heap.size w w') := fun w b e h => by
    have := cells_any b N e w h N8
    rw [← hm] at this
    exact this
  have KE : Hid (∀ w b e, ZoneAt w b N e → (∀ k, k < m → -2147483648 ≤ e k ∧ e k ≤ 2147483647) → Calls Try.prog 7 #[.pointer (some ⟨b, 0, none⟩)] w fun x w' => (∃ v, x = .returned v ∧ w'.ownsRow w.heap.size 5 1 v (1 + 4 * m) ((keyI N e m).map (Value.int .u8))) ∧ Below w.heap.size w w') := fun w b e h hr => key_exact b N m e w N8 hm m81 hr h
  have hlc := listOf_len c m
  have hld := listOf_len d m
  have HRR := hideD hr
  have HZZ := hideD hzz
  clear hm hr hzz
  have m1 : (m : Int) ≤ 81 := by omega
  go_enter Try.func3, Try.ntmps3
  go_wp2_with fail
  refine H1.out.mono ?_
  rintro x w1 ⟨hb1, b, lb, rfl, hz⟩
  go_wp2_with fail
  refine (H2.out _ hb1).mono ?_
  rintro x w2 ⟨hb2, o, lo, rfl, hy⟩
  have Z2 := hideD (hz.past hb2)
  have Y2 := hideD hy
  have B2 := hideD (beyondD hb1 hb2)
  have C1 := hideD (CE.out _ _ _ Z2.out)
  clear hb1 hb2 hz hy H1 H2
  go_wp2_with fail
  refine C1.out.mono ?_
  rintro x w3 ⟨⟨v3, rfl, g1, cap1, rfl, -, l1, row1⟩, hb3⟩
  rw [hlc]
  have Z3 := hideD (Z2.out.past hb3)
  have Y3 := hideD (Y2.out.past hb3)
  have B3 := hideD (beyondD B2.out hb3)
  have R3 := hideD row1
  have C2 := hideD (CE.out _ _ _ Y3.out)
  clear hb3 Z2 Y2 B2 C1 row1
  go_wp2_with fail
  refine C2.out.mono ?_
  rintro x w4 ⟨⟨v4, rfl, g2, cap2, rfl, -, l2, row2⟩, hb4⟩
  rw [hld]
  have Z4 := hideD (Z3.out.past hb4)
  have Y4 := hideD (Y3.out.past hb4)
  have B4 := hideD (beyondD B3.out hb4)
  have R4 : Hid (∀ j, j < m → w4.cell? ⟨g1, j, none⟩ = some (.int .i32 (c j))) := fun j hj => by
    have := (R3.out.later hb4 l1) j (by omega)
    rw [listOf_get _ _ _ hj, Nat.zero_add] at this
    exact this
  have S4 : Hid (∀ j, j < m → w4.cell? ⟨g2, j, none⟩ = some (.int .i32 (d j))) := fun j hj => by
    have := row2 j (by omega)
    rw [listOf_get _ _ _ hj, Nat.zero_add] at this
    exact this
  clear hb4 Z3 Y3 B3 C2 row2 R3 CE
  go_wp2_with fail
  go_loopw [13, 14] (fun p s wr => ∃ (I k : Nat) (q : Int), I ≤ m ∧ s = .int .i64 I ∧ p = .int .i64 q ∧ wr = w4.drewN k ∧ Hid ((q = 0 ∧ ∀ j, j < I → c j = d j) ∨ (q = -1 ∧ firstLess c d 0 m = true) ∨ (q = 1 ∧ firstLess c d 0 m = false))) (fun _ s _ => m - (intOf s).toNat)
  case atStart => exact ⟨0, 0, 0, by omega, rfl, rfl, rfl, .inl ⟨rfl, fun j hj => by omega⟩⟩
  case round =>
    obtain ⟨I, k, q, hI, rfl, rfl, rfl, hq⟩ := hrel
    by_cases st : q = 0 ∧ I < m
    · obtain ⟨rfl, ci⟩ := st
      have heq : Hid (∀ j, j < I → c j = d j) := by
        rcases hq.out with ⟨-, h⟩ | ⟨h, -⟩ | ⟨h, -⟩
        · exact h
        · omega
        · omega
      have fa := hideD (first_at c d I m heq.out ci)
      have a1 := R4.out I ci
      have a2 := S4.out I ci
      have i1 : (I : Int) < (m : Int) := by omega
      have NE : Hid (c I = d I → ∀ j, j < I + 1 → c j = d j) := fun e j hj => by
        by_cases qq : j = I
        · subst qq; exact e
        · exact heq.out j (by omega)
      generalize c I = x at *
      generalize d I = y at *
      by_cases c1 : x < y
      · rw [if_pos c1] at fa
        go_wp2_with fail
        go_quiet (fail)
        go_wp2_with fail
        go_roundw
        case rel => exact ⟨I + 1, _, -1, by omega, by go_num, rfl, rfl, .inr (.inl ⟨rfl, fa.out⟩)⟩
        case measure => simp [intOf]; omega
      · by_cases c2 : y < x
        · rw [if_neg c1, if_pos c2] at fa
          go_wp2_with fail
          go_quiet (fail)
          go_wp2_with fail
          go_quiet (fail)
          go_wp2_with fail
          go_roundw
          case rel => exact ⟨I + 1, _, 1, by omega, by go_num, rfl, rfl, .inr (.inr ⟨rfl, fa.out⟩)⟩
          case measure => simp [intOf]; omega
        · go_wp2_with fail
          go_quiet (fail)
          go_wp2_with fail
          go_quiet (fail)
          go_wp2_with fail
          go_roundw
          case rel => exact ⟨I + 1, _, 0, by omega, by go_num, rfl, rfl, .inl ⟨rfl, NE.out (by omega)⟩⟩
          case measure => simp [intOf]; omega
    · have HF : Hid (decide (q < 0) = firstLess c d 0 m) := by
        show decide (q < 0) = _
        rcases hq.out with ⟨h, h2⟩ | ⟨h, h2⟩ | ⟨h, h2⟩
        · rw [first_all c d m (fun j hj => h2 j (by omega)), h]; rfl
        · rw [h2, h]; rfl
        · rw [h2, h]; rfl
      have LK := hideD (less_keys N m c d HRR.out)
      have EK := hideD (keys_eq N m c d m81 HRR.out HZZ.out)
      clear hq
      have Z5 := hideD (Z4.out.drewN k)
      have Y5 := hideD (Y4.out.drewN k)
      have B5 := hideD (below_drewN B4.out k)
      generalize w4.drewN k = w5 at *
      have KX : Hid (∀ w', Below w5.heap.size w5 w' → Calls Try.prog 7 #[.pointer (some ⟨b, 0, none⟩)] w' fun x w'' => (∃ v, x = .returned v ∧ w''.ownsRow w'.heap.size 5 1 v (1 + 4 * m) ((keyI N c m).map (Value.int .u8))) ∧ Below w'.heap.size w' w'') := fun w' hb => KE.out _ _ _ (Z5.out.past hb) (fun j hj => (HRR.out j hj).1)
      have KY : Hid (∀ w', Below w5.heap.size w5 w' → Calls Try.prog 7 #[.pointer (some ⟨o, 0, none⟩)] w' fun x w'' => (∃ v, x = .returned v ∧ w''.ownsRow w'.heap.size 5 1 v (1 + 4 * m) ((keyI N d m).map (Value.int .u8))) ∧ Below w'.heap.size w' w'') := fun w' hb => KE.out _ _ _ (Y5.out.past hb) (fun j hj => (HRR.out j hj).2)
      have two : (I : Int) < (m : Int) ∧ ¬ q = 0 ∨ ¬ (I : Int) < (m : Int) := by omega
      rcases two with ⟨t1, t2⟩ | t1
      · go_upto_region 14 with (fail)
        go_cut [15, 16] (fun s t w' => s = .string ⟨(keyU (keyI N c m)).toArray⟩ ∧ t = .string ⟨(keyU (keyI N d m)).toArray⟩ ∧ Below w5.heap.size w5 w')
        case first =>
          go_region_with
            (first
              | (go_at_call_of 7 b; refine (KX.out _ (by first | with_reducible assumption | with_reducible exact Below.drew (Below.refl _ _) | with_reducible exact Below.refl _ _ | with_reducible exact Below.drew hX | with_reducible exact Below.drew hY | with_reducible exact Below.drew (Below.drew (Below.refl _ _)) | with_reducible exact Below.drew (Below.drew hX) | with_reducible exact Below.drew (Below.drew hY))).mono ?_; rintro x w6 ⟨⟨v5, rfl, o5⟩, hb⟩; have fo := writes_of o5 (by omega); obtain ⟨g5, cap5, rfl, -, l5, -⟩ := fo; have CV := conv_key N m g5 cap5 _ c N8 w6 o5; have CL := hideD (fun (w' : World) (h : Below w6.heap.size w6 w') => conv_key N m g5 cap5 _ c N8 w' (own_later o5 h)); have hX := beyondD (w := w5) (by first | with_reducible assumption | with_reducible exact Below.drew (Below.refl _ _) | with_reducible exact Below.refl _ _ | with_reducible exact Below.drew hX | with_reducible exact Below.drew hY | with_reducible exact Below.drew (Below.drew (Below.refl _ _)) | with_reducible exact Below.drew (Below.drew hX) | with_reducible exact Below.drew (Below.drew hY)) hb; clear o5)
              | (go_at_call 7; refine (KY.out _ (by first | with_reducible assumption | with_reducible exact Below.drew (Below.refl _ _) | with_reducible exact Below.refl _ _ | with_reducible exact Below.drew hX | with_reducible exact Below.drew hY | with_reducible exact Below.drew (Below.drew (Below.refl _ _)) | with_reducible exact Below.drew (Below.drew hX) | with_reducible exact Below.drew (Below.drew hY))).mono ?_; rintro x w7 ⟨⟨v6, rfl, o6⟩, hb⟩; have fo := writes_of o6 (by omega); obtain ⟨g6, cap6, rfl, -, l6, -⟩ := fo; have CV2 := conv_key N m g6 cap6 _ d N8 w7 o6; have CV3 := CL.out _ hb; have hY := beyondD (w := w5) (by first | with_reducible assumption | with_reducible exact Below.drew (Below.refl _ _) | with_reducible exact Below.refl _ _ | with_reducible exact Below.drew hX | with_reducible exact Below.drew hY | with_reducible exact Below.drew (Below.drew (Below.refl _ _)) | with_reducible exact Below.drew (Below.drew hX) | with_reducible exact Below.drew (Below.drew hY)) hb; clear o6))
          all_goals go_wp2_with fail
          all_goals go_meet
          all_goals exact ⟨rfl, rfl, by assumption⟩
        case rest =>
          obtain ⟨rfl, rfl, hb6⟩ := hcut
          go_wp2_with fail
          have Z6 := hideD (Z5.out.past hb6)
          have Y6 := hideD (Y5.out.past hb6)
          have B6 := hideD (beyondD B5.out hb6)
          refine (live_any _).mono ?_
          rintro x w8 ⟨rfl, hb8⟩
          have Z8 := hideD (Z6.out.past hb8)
          have Y8 := hideD (Y6.out.past hb8)
          have B8 := hideD (beyondD B6.out hb8)
          have EQ : Hid (∀ k, Calls Try.prog 8 #[.pointer (some ⟨b, 0, none⟩), .pointer (some ⟨o, 0, none⟩)] (w8.drewN k) fun e w' => e = .returned (.bool (eqUpto c d 81)) ∧ ∃ k', w' = (w8.drewN k).drewN k') := fun k => equal_any b o N c d _ (Z8.out.drewN k) (Y8.out.drewN k)
          clear hb8 hb6 Z8 Y8 Z6 Y6 B6 KX KY Z5 Y5 B5 R4 S4 Z4 Y4 B4 KE
          go_wp2_with fail
          refine (EQ.out 0).mono ?_
          rintro x w9 ⟨rfl, k9, rfl⟩
          go_wp2_with fail
          all_goals first
            | (go_ret
               have le : (Op.bytesLess (keyU (keyI N c m)) (keyU (keyI N d m)) == decide (q < 0)) = true := by rw [LK.out, HF.out]; exact beq_self_eq_true _
               refine ⟨?_, below_drewN B8.out k9⟩
               rw [le]
               rfl)
            | (exfalso; have := EK.out; contradiction)
      · go_upto_region 14 with (fail)
        go_cut [15, 16] (fun s t w' => s = .string ⟨(keyU (keyI N c m)).toArray⟩ ∧ t = .string ⟨(keyU (keyI N d m)).toArray⟩ ∧ Below w5.heap.size w5 w')
        case first =>
          go_region_with
            (first
              | (go_at_call_of 7 b; refine (KX.out _ (by first | with_reducible assumption | with_reducible exact Below.drew (Below.refl _ _) | with_reducible exact Below.refl _ _ | with_reducible exact Below.drew hX | with_reducible exact Below.drew hY | with_reducible exact Below.drew (Below.drew (Below.refl _ _)) | with_reducible exact Below.drew (Below.drew hX) | with_reducible exact Below.drew (Below.drew hY))).mono ?_; rintro x w6 ⟨⟨v5, rfl, o5⟩, hb⟩; have fo := writes_of o5 (by omega); obtain ⟨g5, cap5, rfl, -, l5, -⟩ := fo; have CV := conv_key N m g5 cap5 _ c N8 w6 o5; have CL := hideD (fun (w' : World) (h : Below w6.heap.size w6 w') => conv_key N m g5 cap5 _ c N8 w' (own_later o5 h)); have hX := beyondD (w := w5) (by first | with_reducible assumption | with_reducible exact Below.drew (Below.refl _ _) | with_reducible exact Below.refl _ _ | with_reducible exact Below.drew hX | with_reducible exact Below.drew hY | with_reducible exact Below.drew (Below.drew (Below.refl _ _)) | with_reducible exact Below.drew (Below.drew hX) | with_reducible exact Below.drew (Below.drew hY)) hb; clear o5)
              | (go_at_call 7; refine (KY.out _ (by first | with_reducible assumption | with_reducible exact Below.drew (Below.refl _ _) | with_reducible exact Below.refl _ _ | with_reducible exact Below.drew hX | with_reducible exact Below.drew hY | with_reducible exact Below.drew (Below.drew (Below.refl _ _)) | with_reducible exact Below.drew (Below.drew hX) | with_reducible exact Below.drew (Below.drew hY))).mono ?_; rintro x w7 ⟨⟨v6, rfl, o6⟩, hb⟩; have fo := writes_of o6 (by omega); obtain ⟨g6, cap6, rfl, -, l6, -⟩ := fo; have CV2 := conv_key N m g6 cap6 _ d N8 w7 o6; have CV3 := CL.out _ hb; have hY := beyondD (w := w5) (by first | with_reducible assumption | with_reducible exact Below.drew (Below.refl _ _) | with_reducible exact Below.refl _ _ | with_reducible exact Below.drew hX | with_reducible exact Below.drew hY | with_reducible exact Below.drew (Below.drew (Below.refl _ _)) | with_reducible exact Below.drew (Below.drew hX) | with_reducible exact Below.drew (Below.drew hY)) hb; clear o6))
          all_goals go_wp2_with fail
          all_goals go_meet
          all_goals exact ⟨rfl, rfl, by assumption⟩
        case rest =>
          obtain ⟨rfl, rfl, hb6⟩ := hcut
          go_wp2_with fail
          have Z6 := hideD (Z5.out.past hb6)
          have Y6 := hideD (Y5.out.past hb6)
          have B6 := hideD (beyondD B5.out hb6)
          refine (live_any _).mono ?_
          rintro x w8 ⟨rfl, hb8⟩
          have Z8 := hideD (Z6.out.past hb8)
          have Y8 := hideD (Y6.out.past hb8)
          have B8 := hideD (beyondD B6.out hb8)
          have EQ : Hid (∀ k, Calls Try.prog 8 #[.pointer (some ⟨b, 0, none⟩), .pointer (some ⟨o, 0, none⟩)] (w8.drewN k) fun e w' => e = .returned (.bool (eqUpto c d 81)) ∧ ∃ k', w' = (w8.drewN k).drewN k') := fun k => equal_any b o N c d _ (Z8.out.drewN k) (Y8.out.drewN k)
          clear hb8 hb6 Z8 Y8 Z6 Y6 B6 KX KY Z5 Y5 B5 R4 S4 Z4 Y4 B4 KE
          go_wp2_with fail
          refine (EQ.out 0).mono ?_
          rintro x w9 ⟨rfl, k9, rfl⟩
          go_wp2_with fail
          all_goals first
            | (go_ret
               have le : (Op.bytesLess (keyU (keyI N c m)) (keyU (keyI N d m)) == decide (q < 0)) = true := by rw [LK.out, HF.out]; exact beq_self_eq_true _
               refine ⟨?_, below_drewN B8.out k9⟩
               rw [le]
               rfl)
            | (exfalso; have := EK.out; contradiction)
end Go.Proofs.Ytdceldpcankcaaa
