/-
  The contract of the document's division of numbers of 128 bits, digit by digit.
-/
import Derived.Test.YtnfkmpickmonoaaGreatQ43
namespace Go.Proofs.YtnfkmpickmonoaaGreat
open Go.RowKit Go.Shelf
set_option linter.unusedVariables false
set_option maxRecDepth 100000 in
set_option maxHeartbeats 16000000 in
theorem xdivide_any (N D : Int) (w : World) (hN : U128 N) (hD : U128 D) (d0 : 0 < D) :
    Calls Tryz.prog 136 #[wv N, wv D] w fun e w' => e = .returned (.tuple #[wv (N / D), wv (N % D)]) ∧ Below w.heap.size w w' := by
  have HN := hideR hN
  have HD := hideR hD
  have H0 := hideR d0
  have HBl : Hid (∀ M w, Calls Tryz.prog 138 #[wv M, wv D] w fun e w' => e = .returned (.bool (decide (M < D))) ∧ Below w.heap.size w w') := hideR (fun M w => xbelow_any M D w)
  have HMi : Hid (∀ M w, U128 M → Calls Tryz.prog 148 #[wv M, wv D] w fun e w' => e = .returned (wv ((M - D) % 340282366920938463463374607431768211456)) ∧ Below w.heap.size w w') := hideR (fun M w h => xminus_any M D w h hD)
  clear hN hD d0
  have m0_2 : ¬ w.heap.size = w.heap.size + 1 + 1 := by omega
  have m0_3 : ¬ w.heap.size = w.heap.size + 1 + 1 + 1 := by omega
  have m0_4 : ¬ w.heap.size = w.heap.size + 1 + 1 + 1 + 1 := by omega
  have m0_5 : ¬ w.heap.size = w.heap.size + 1 + 1 + 1 + 1 + 1 := by omega
  have m1_3 : ¬ w.heap.size + 1 = w.heap.size + 1 + 1 + 1 := by omega
  have m1_4 : ¬ w.heap.size + 1 = w.heap.size + 1 + 1 + 1 + 1 := by omega
  have m1_5 : ¬ w.heap.size + 1 = w.heap.size + 1 + 1 + 1 + 1 + 1 := by omega
  have m2_0 : ¬ w.heap.size + 1 + 1 = w.heap.size := by omega
  have m2_4 : ¬ w.heap.size + 1 + 1 = w.heap.size + 1 + 1 + 1 + 1 := by omega
  have m2_5 : ¬ w.heap.size + 1 + 1 = w.heap.size + 1 + 1 + 1 + 1 + 1 := by omega
  have m3_0 : ¬ w.heap.size + 1 + 1 + 1 = w.heap.size := by omega
  have m3_1 : ¬ w.heap.size + 1 + 1 + 1 = w.heap.size + 1 := by omega
  have m3_5 : ¬ w.heap.size + 1 + 1 + 1 = w.heap.size + 1 + 1 + 1 + 1 + 1 := by omega
  have m4_0 : ¬ w.heap.size + 1 + 1 + 1 + 1 = w.heap.size := by omega
  have m4_1 : ¬ w.heap.size + 1 + 1 + 1 + 1 = w.heap.size + 1 := by omega
  have m4_2 : ¬ w.heap.size + 1 + 1 + 1 + 1 = w.heap.size + 1 + 1 := by omega
  have m5_0 : ¬ w.heap.size + 1 + 1 + 1 + 1 + 1 = w.heap.size := by omega
  have m5_1 : ¬ w.heap.size + 1 + 1 + 1 + 1 + 1 = w.heap.size + 1 := by omega
  have m5_2 : ¬ w.heap.size + 1 + 1 + 1 + 1 + 1 = w.heap.size + 1 + 1 := by omega
  have m5_3 : ¬ w.heap.size + 1 + 1 + 1 + 1 + 1 = w.heap.size + 1 + 1 + 1 := by omega
  go_enter Tryz.func136, Tryz.ntmps136
  go_wp2_with fail
  go_loopw [8] (fun s wr => ∃ (k : Nat) (Q R : Int), k ≤ 128 ∧ s = .int .i64 ((k : Int) - 1) ∧ Hid (St wr w.heap.size (hiW N) (loW N) (hiW D) (loW D) (hiW Q) (loW Q) (hiW R) (loW R)) ∧ Hid (Q = N / 2 ^ k / D ∧ R = N / 2 ^ k % D) ∧ Hid (Below w.heap.size w wr)) (fun s _ => (intOf s + 1).toNat)
  case atStart =>
    have z : N / 2 ^ 128 = 0 := Int.ediv_eq_zero_of_lt HN.out.1 HN.out.2
    refine ⟨128, 0, 0, Nat.le_refl _, rfl, hideR ?_, hideR ⟨by rw [z]; simp, by rw [z]; simp⟩, hideR (six w _ _ _ _ _ _)⟩
    unfold St
    simp [go_sem, hiW, loW]
  case round =>
    obtain ⟨k, Q, R, hk, rfl, hS, hQR, hB⟩ := hrel
    by_cases k0 : k = 0
    · subst k0
      have eQ : Q = N / D := by have := hQR.out.1; simpa using this
      have eR : R = N % D := by have := hQR.out.2; simpa using this
      subst eQ eR
      clear hQR HBl HMi hk
      obtain ⟨c0, c1, c2, c3, c4, c5, c6, c7, c8, c9, c10, c11, f0, f1, f2, f3, f4, f5, f6, f7⟩ := hS.out
      go_wp2_with fail
      go_region_held3 (fun w' => w'.cell? ⟨w.heap.size + 1 + 1 + 1 + 1, 0, none⟩ = some (.int .u64 (hiW (N / D))) ∧ w'.cell? ⟨w.heap.size + 1 + 1 + 1 + 1, 1, none⟩ = some (.int .u64 (loW (N / D))) ∧ w'.cell? ⟨w.heap.size + 1 + 1 + 1 + 1 + 1, 0, none⟩ = some (.int .u64 (hiW (N % D))) ∧ w'.cell? ⟨w.heap.size + 1 + 1 + 1 + 1 + 1, 1, none⟩ = some (.int .u64 (loW (N % D))))
        (first | exact ⟨by assumption, by assumption, by assumption, by assumption⟩ | go_keep | exact ⟨by simp [go_sem, *], by simp [go_sem, *], by simp [go_sem, *], by simp [go_sem, *]⟩) (fail)
      all_goals
        go_wp2
        refine bodyPost_ret (v := .tuple #[wv (N / D), wv (N % D)]) (by simp [results, Tryz.results136, go_sem, *]) rfl ⟨rfl, ?_⟩
        first | exact set2 (set2 (Below.drew hB.out) (by omega) _ _) (by omega) _ _ | exact set2 (set2 hB.out (by omega) _ _) (by omega) _ _
    · have i0 : 0 ≤ (k : Int) - 1 := by omega
      have k1 : k - 1 + 1 = k := by omega
      have HW : Hid (wrap64 ((k : Int) - 1 - 1) = (k : Int) - 1 - 1) := by show wrap64 ((k : Int) - 1 - 1) = (k : Int) - 1 - 1; unfold wrap64; omega
      have dm := digit_more N (k - 1)
      rw [k1] at dm
      have b0 : 0 ≤ N / 2 ^ (k - 1) % 2 := by omega
      have b1 : N / 2 ^ (k - 1) % 2 ≤ 1 := by omega
      have HR : Hid (0 ≤ R ∧ R < D ∧ 0 ≤ Q ∧ 2 * Q < 340282366920938463463374607431768211456 ∧ R < 340282366920938463463374607431768211456) := by
        obtain ⟨e1, e2⟩ := hQR.out
        have p : (0 : Int) < 2 ^ (k - 1) := Int.pow_pos (by decide)
        have p2 : (0 : Int) < 2 ^ k := Int.pow_pos (by decide)
        have n0 := HN.out.1
        have n1 := HN.out.2
        have A0 : 0 ≤ N / 2 ^ k := Int.ediv_nonneg n0 (by omega)
        have A1 : N / 2 ^ (k - 1) ≤ N := Int.ediv_le_self _ n0
        have q0 : 0 ≤ N / 2 ^ k / D := Int.ediv_nonneg A0 (by have := H0.out; omega)
        have q1 : N / 2 ^ k / D ≤ N / 2 ^ k := Int.ediv_le_self _ A0
        have r0 := Int.emod_nonneg (N / 2 ^ k) (show D ≠ 0 by have := H0.out; omega)
        have r1 := Int.emod_lt_of_pos (N / 2 ^ k) H0.out
        have := HD.out.2
        rw [← e1] at q0 q1
        rw [← e2] at r0 r1
        exact ⟨r0, r1, q0, by omega, by omega⟩
      have HM : Hid ((D ≤ 2 * R + N / 2 ^ (k - 1) % 2 → 2 * Q + 1 = N / 2 ^ (k - 1) / D ∧ 2 * R + N / 2 ^ (k - 1) % 2 - D = N / 2 ^ (k - 1) % D) ∧ (2 * R + N / 2 ^ (k - 1) % 2 < D → 2 * Q = N / 2 ^ (k - 1) / D ∧ 2 * R + N / 2 ^ (k - 1) % 2 = N / 2 ^ (k - 1) % D)) := by
        obtain ⟨e1, e2⟩ := hQR.out
        have h := div_more (N / 2 ^ k) D (N / 2 ^ (k - 1) % 2) H0.out b0 b1
        rw [← dm, ← e1, ← e2] at h
        exact ⟨fun c => ⟨(h.1 c).1.symm, (h.1 c).2.symm⟩, fun c => ⟨(h.2 c).1.symm, (h.2 c).2.symm⟩⟩
      have eh : 64 ≤ k - 1 → bits BinOp.and IntKind.u64 (hiW N / 2 ^ (k - 1 - 64)) 1 = N / 2 ^ (k - 1) % 2 := fun h => by
        have hb := hi_bd HN.out
        have p : (0 : Int) < 2 ^ (k - 1 - 64) := Int.pow_pos (by decide)
        rw [and_one6 _ (Int.ediv_nonneg hb.1 (by omega)) (by have := Int.ediv_le_self (2 ^ (k - 1 - 64)) hb.1; omega)]
        exact digit_hi N (k - 1) h
      have el : k - 1 < 64 → bits BinOp.and IntKind.u64 (loW N / 2 ^ ((k - 1) % 64)) 1 = N / 2 ^ (k - 1) % 2 := fun h => by
        have hb := lo_bd N
        have p : (0 : Int) < 2 ^ ((k - 1) % 64) := Int.pow_pos (by decide)
        rw [and_one6 _ (Int.ediv_nonneg hb.1 (by omega)) (by have := Int.ediv_le_self (2 ^ ((k - 1) % 64)) hb.1; omega)]
        exact digit_lo N (k - 1) h
      clear dm hQR
      generalize N / 2 ^ (k - 1) % 2 = b at *
      have HBb : Hid (0 ≤ b ∧ b ≤ 1) := hideR ⟨b0, b1⟩
      clear b0 b1
      obtain ⟨x1, x2, x3, x4⟩ := words2 Q HR.out.2.2.1 HR.out.2.2.2.1
      obtain ⟨y1, y2⟩ := wordsR R b HR.out.1 HR.out.2.2.2.2 HBb.out.1 HBb.out.2
      have HX4 := hideR x4
      clear x4
      obtain ⟨c0, c1, c2, c3, c4, c5, c6, c7, c8, c9, c10, c11, f0, f1, f2, f3, f4, f5, f6, f7⟩ := hS.out
      by_cases c64 : 64 ≤ (k : Int) - 1
      · have e1 := eh (by omega)
        clear eh el
        by_cases ct : hiW R / 9223372036854775808 = 1
        · go_wp2_with fail
          refine (HMi.out ((2 * R + b) % 340282366920938463463374607431768211456) _ ⟨by omega, by omega⟩).mono ?_
          rintro e w1 ⟨rfl, hb⟩
          have S1 := hideR (st_below (st_q (st_r hS.out _ _) _ _) hb)
          have hB1 := hideR (beyond ((set2 (set2 hB.out (by omega) _ _) (by omega) _ _)) hb)
          clear hb hB hS c0 c1 c2 c3 c4 c5 c6 c7 c8 c9 c10 c11 f0 f1 f2 f3 f4 f5 f6 f7
          obtain ⟨c0, c1, c2, c3, c4, c5, c6, c7, c8, c9, c10, c11, f0, f1, f2, f3, f4, f5, f6, f7⟩ := S1.out
          go_wp2_with fail
          go_roundw
          case rel =>
            have h := HR.out
            have hb := HBb.out
            obtain ⟨hd0, hd1⟩ := HD.out
            have c : D ≤ 2 * R + b := by unfold hiW at ct; omega
            have e : (2 * R + b - D) % 340282366920938463463374607431768211456 = 2 * R + b - D := by omega
            refine ⟨k - 1, 2 * Q + 1, (2 * R + b - D) % 340282366920938463463374607431768211456, by omega, by congr 1; omega, hideR ?_, by rw [e]; exact hideR (HM.out.1 c), hideR ?_⟩
            · rw [HX4.out]
              exact st_ql (st_r S1.out _ _) _
            · exact Below.setCell (set2 hB1.out (by omega) _ _) (show w.heap.size ≤ w.heap.size + 1 + 1 + 1 + 1 by omega) _
          case measure => simp [intOf]; omega
        · have HC := hideR ct
          by_cases cb : ((2 * R + b) % 340282366920938463463374607431768211456) < D
          · have HBt : Hid (∀ w, Calls Tryz.prog 138 #[wv ((2 * R + b) % 340282366920938463463374607431768211456), wv D] w fun e w' => e = .returned (.bool true) ∧ Below w.heap.size w w') := by
              show ∀ w, _
              intro w
              have := HBl.out ((2 * R + b) % 340282366920938463463374607431768211456) w
              rw [decide_eq_true cb] at this
              exact this
            have HCB := hideR cb
            clear cb
            go_wp2_with fail
            refine (HBt.out _).mono ?_
            rintro e w0 ⟨rfl, hb⟩
            have S0 := hideR (st_below (st_q (st_r hS.out _ _) _ _) hb)
            have hB0 := hideR (beyond (set2 (set2 hB.out (by omega) _ _) (by omega) _ _) hb)
            clear hb hB hS c0 c1 c2 c3 c4 c5 c6 c7 c8 c9 c10 c11 f0 f1 f2 f3 f4 f5 f6 f7
            obtain ⟨c0, c1, c2, c3, c4, c5, c6, c7, c8, c9, c10, c11, f0, f1, f2, f3, f4, f5, f6, f7⟩ := S0.out
            go_wp2_with fail
            go_roundw
            case rel =>
              have h := HR.out
              have hb := HBb.out
              have ct := HC.out
              have hd := HD.out
              have e : ((2 * R + b) % 340282366920938463463374607431768211456) = 2 * R + b := by unfold hiW at ct; omega
              refine ⟨k - 1, 2 * Q, ((2 * R + b) % 340282366920938463463374607431768211456), by omega, by congr 1; omega, S0, ?_, hB0⟩
              have cb := HCB.out
              rw [e] at cb ⊢
              exact hideR (HM.out.2 cb)
            case measure => simp [intOf]; omega
          · have HBt : Hid (∀ w, Calls Tryz.prog 138 #[wv ((2 * R + b) % 340282366920938463463374607431768211456), wv D] w fun e w' => e = .returned (.bool false) ∧ Below w.heap.size w w') := by
              show ∀ w, _
              intro w
              have := HBl.out ((2 * R + b) % 340282366920938463463374607431768211456) w
              rw [decide_eq_false cb] at this
              exact this
            have HCB := hideR cb
            clear cb
            go_wp2_with fail
            refine (HBt.out _).mono ?_
            rintro e w0 ⟨rfl, hb⟩
            have S0 := hideR (st_below (st_q (st_r hS.out _ _) _ _) hb)
            have hB0 := hideR (beyond (set2 (set2 hB.out (by omega) _ _) (by omega) _ _) hb)
            clear hb hB hS c0 c1 c2 c3 c4 c5 c6 c7 c8 c9 c10 c11 f0 f1 f2 f3 f4 f5 f6 f7
            obtain ⟨c0, c1, c2, c3, c4, c5, c6, c7, c8, c9, c10, c11, f0, f1, f2, f3, f4, f5, f6, f7⟩ := S0.out
            go_wp2_with fail
            refine (HMi.out ((2 * R + b) % 340282366920938463463374607431768211456) _ ⟨by omega, by omega⟩).mono ?_
            rintro e w1 ⟨rfl, hb⟩
            have S1 := hideR (st_below S0.out hb)
            have hB1 := hideR (beyond (hB0.out) hb)
            clear hb hB0 S0 c0 c1 c2 c3 c4 c5 c6 c7 c8 c9 c10 c11 f0 f1 f2 f3 f4 f5 f6 f7
            obtain ⟨c0, c1, c2, c3, c4, c5, c6, c7, c8, c9, c10, c11, f0, f1, f2, f3, f4, f5, f6, f7⟩ := S1.out
            go_wp2_with fail
            go_roundw
            case rel =>
              have h := HR.out
              have hb := HBb.out
              obtain ⟨hd0, hd1⟩ := HD.out
              have c : D ≤ 2 * R + b := by have cb := HCB.out; have ct := HC.out; unfold hiW at ct; omega
              have e : (2 * R + b - D) % 340282366920938463463374607431768211456 = 2 * R + b - D := by omega
              refine ⟨k - 1, 2 * Q + 1, (2 * R + b - D) % 340282366920938463463374607431768211456, by omega, by congr 1; omega, hideR ?_, by rw [e]; exact hideR (HM.out.1 c), hideR ?_⟩
              · rw [HX4.out]
                exact st_ql (st_r S1.out _ _) _
              · exact Below.setCell (set2 hB1.out (by omega) _ _) (show w.heap.size ≤ w.heap.size + 1 + 1 + 1 + 1 by omega) _
            case measure => simp [intOf]; omega
      · have e1 := el (by omega)
        clear eh el
        by_cases ct : hiW R / 9223372036854775808 = 1
        · go_wp2_with fail
          refine (HMi.out ((2 * R + b) % 340282366920938463463374607431768211456) _ ⟨by omega, by omega⟩).mono ?_
          rintro e w1 ⟨rfl, hb⟩
          have S1 := hideR (st_below (st_q (st_r hS.out _ _) _ _) hb)
          have hB1 := hideR (beyond ((set2 (set2 hB.out (by omega) _ _) (by omega) _ _)) hb)
          clear hb hB hS c0 c1 c2 c3 c4 c5 c6 c7 c8 c9 c10 c11 f0 f1 f2 f3 f4 f5 f6 f7
          obtain ⟨c0, c1, c2, c3, c4, c5, c6, c7, c8, c9, c10, c11, f0, f1, f2, f3, f4, f5, f6, f7⟩ := S1.out
          go_wp2_with fail
          go_roundw
          case rel =>
            have h := HR.out
            have hb := HBb.out
            obtain ⟨hd0, hd1⟩ := HD.out
            have c : D ≤ 2 * R + b := by unfold hiW at ct; omega
            have e : (2 * R + b - D) % 340282366920938463463374607431768211456 = 2 * R + b - D := by omega
            refine ⟨k - 1, 2 * Q + 1, (2 * R + b - D) % 340282366920938463463374607431768211456, by omega, by congr 1; omega, hideR ?_, by rw [e]; exact hideR (HM.out.1 c), hideR ?_⟩
            · rw [HX4.out]
              exact st_ql (st_r S1.out _ _) _
            · exact Below.setCell (set2 hB1.out (by omega) _ _) (show w.heap.size ≤ w.heap.size + 1 + 1 + 1 + 1 by omega) _
          case measure => simp [intOf]; omega
        · have HC := hideR ct
          by_cases cb : ((2 * R + b) % 340282366920938463463374607431768211456) < D
          · have HBt : Hid (∀ w, Calls Tryz.prog 138 #[wv ((2 * R + b) % 340282366920938463463374607431768211456), wv D] w fun e w' => e = .returned (.bool true) ∧ Below w.heap.size w w') := by
              show ∀ w, _
              intro w
              have := HBl.out ((2 * R + b) % 340282366920938463463374607431768211456) w
              rw [decide_eq_true cb] at this
              exact this
            have HCB := hideR cb
            clear cb
            go_wp2_with fail
            refine (HBt.out _).mono ?_
            rintro e w0 ⟨rfl, hb⟩
            have S0 := hideR (st_below (st_q (st_r hS.out _ _) _ _) hb)
            have hB0 := hideR (beyond (set2 (set2 hB.out (by omega) _ _) (by omega) _ _) hb)
            clear hb hB hS c0 c1 c2 c3 c4 c5 c6 c7 c8 c9 c10 c11 f0 f1 f2 f3 f4 f5 f6 f7
            obtain ⟨c0, c1, c2, c3, c4, c5, c6, c7, c8, c9, c10, c11, f0, f1, f2, f3, f4, f5, f6, f7⟩ := S0.out
            go_wp2_with fail
            go_roundw
            case rel =>
              have h := HR.out
              have hb := HBb.out
              have ct := HC.out
              have hd := HD.out
              have e : ((2 * R + b) % 340282366920938463463374607431768211456) = 2 * R + b := by unfold hiW at ct; omega
              refine ⟨k - 1, 2 * Q, ((2 * R + b) % 340282366920938463463374607431768211456), by omega, by congr 1; omega, S0, ?_, hB0⟩
              have cb := HCB.out
              rw [e] at cb ⊢
              exact hideR (HM.out.2 cb)
            case measure => simp [intOf]; omega
          · have HBt : Hid (∀ w, Calls Tryz.prog 138 #[wv ((2 * R + b) % 340282366920938463463374607431768211456), wv D] w fun e w' => e = .returned (.bool false) ∧ Below w.heap.size w w') := by
              show ∀ w, _
              intro w
              have := HBl.out ((2 * R + b) % 340282366920938463463374607431768211456) w
              rw [decide_eq_false cb] at this
              exact this
            have HCB := hideR cb
            clear cb
            go_wp2_with fail
            refine (HBt.out _).mono ?_
            rintro e w0 ⟨rfl, hb⟩
            have S0 := hideR (st_below (st_q (st_r hS.out _ _) _ _) hb)
            have hB0 := hideR (beyond (set2 (set2 hB.out (by omega) _ _) (by omega) _ _) hb)
            clear hb hB hS c0 c1 c2 c3 c4 c5 c6 c7 c8 c9 c10 c11 f0 f1 f2 f3 f4 f5 f6 f7
            obtain ⟨c0, c1, c2, c3, c4, c5, c6, c7, c8, c9, c10, c11, f0, f1, f2, f3, f4, f5, f6, f7⟩ := S0.out
            go_wp2_with fail
            refine (HMi.out ((2 * R + b) % 340282366920938463463374607431768211456) _ ⟨by omega, by omega⟩).mono ?_
            rintro e w1 ⟨rfl, hb⟩
            have S1 := hideR (st_below S0.out hb)
            have hB1 := hideR (beyond (hB0.out) hb)
            clear hb hB0 S0 c0 c1 c2 c3 c4 c5 c6 c7 c8 c9 c10 c11 f0 f1 f2 f3 f4 f5 f6 f7
            obtain ⟨c0, c1, c2, c3, c4, c5, c6, c7, c8, c9, c10, c11, f0, f1, f2, f3, f4, f5, f6, f7⟩ := S1.out
            go_wp2_with fail
            go_roundw
            case rel =>
              have h := HR.out
              have hb := HBb.out
              obtain ⟨hd0, hd1⟩ := HD.out
              have c : D ≤ 2 * R + b := by have cb := HCB.out; have ct := HC.out; unfold hiW at ct; omega
              have e : (2 * R + b - D) % 340282366920938463463374607431768211456 = 2 * R + b - D := by omega
              refine ⟨k - 1, 2 * Q + 1, (2 * R + b - D) % 340282366920938463463374607431768211456, by omega, by congr 1; omega, hideR ?_, by rw [e]; exact hideR (HM.out.1 c), hideR ?_⟩
              · rw [HX4.out]
                exact st_ql (st_r S1.out _ _) _
              · exact Below.setCell (set2 hB1.out (by omega) _ _) (show w.heap.size ≤ w.heap.size + 1 + 1 + 1 + 1 by omega) _
            case measure => simp [intOf]; omega
end Go.Proofs.YtnfkmpickmonoaaGreat
