/-
  The walk of the statement OpsTwice.
-/
import Derived.Test.YtfffcmelkdmjaaaDoorZk
namespace Go.Proofs.YtfffcmelkdmjaaaDoor
open Go.RowKit
set_option linter.unusedVariables false
set_option maxRecDepth 100000
theorem eql_same (p q n : Nat) (c : Row) (w : World) (hp : ZoneAt w p n c) (hq : ZoneAt w q n c) : Calls Tryd.prog 49 #[.pointer (some ⟨p, 0, none⟩), .pointer (some ⟨q, 0, none⟩)] w fun e w' => e = .returned (.bool true) ∧ Below w.heap.size w w' := by
  have H := equal_any p q n c c w hp hq
  rw [show eqUpto c c 81 = true by unfold eqUpto; simp] at H
  exact H.mono fun e w' ⟨h, k, hb⟩ => ⟨h, by rw [hb]; exact below_drewN (Below.refl _ _) k⟩
theorem inc_true {b o n m : Nat} {c d : Row} {w : World} (h : incB m c d = true) (hz : ZoneAt w b n c) (hy : ZoneAt w o n d) (hn : n ≤ 8) (hm : m = (n + 1) * (n + 1)) :
    Calls Tryd.prog 50 #[.pointer (some ⟨b, 0, none⟩), .pointer (some ⟨o, 0, none⟩)] w fun e w' => e = .returned (.bool true) ∧ Below w.heap.size w w' := by
  have := inc_any b o n m c d w hz hy hn hm
  rw [h] at this
  exact this
set_option maxHeartbeats 8000000 in
theorem opsTwice.walk (n : Int) (hn : (Lit.int .i64 n).wf = true) (v : Value) (l : List Int) (x k y : Int) (vs : Value) (ls : List Int) (w : World) (ht : Pow w) (hS : SliceAt w v l) (wf : ∀ z ∈ l, (Lit.int .i32 z).wf = true) (hby : l.length * 4 ≤ 140737488355328) (hnil : ∀ {c}, v = .slice none 0 c → c = 0) (wx : (Lit.int .i64 x).wf = true) (wk : (Lit.int .i64 k).wf = true) (wy : (Lit.int .i64 y).wf = true) (hIs : IntsAt w vs ls) (wfs : ∀ z ∈ ls, (Lit.int .i64 z).wf = true) (bys : ls.length ≤ 9223372036854775807) :
    Calls Tryd.prog 8 #[.int .i64 n, v, .agg #[.int .i64 x, .int .i64 k, .int .i64 y, vs]] w fun e w' => e = .returned (.bool true) ∧ Below w.heap.size w w' := by
  obtain ⟨k1, o1, s1, -, z1, N1⟩ := two_of n v l w hS (wf_cells wf) (by omega)
  have B0 := hideD (below_one w (.cells #[.int .i64 x, .int .i64 k, .int .i64 y, vs] 76))
  have HL := hideD (olive_any (w.alloc (.cells #[.int .i64 x, .int .i64 k, .int .i64 y, vs] 76)) (pow_later ht B0.out))
  have S1 := hideD s1
  have X0 : Hid ((w.alloc (.cells #[.int .i64 x, .int .i64 k, .int .i64 y, vs] 76)).cell? ⟨w.heap.size, 0, none⟩ = some (.int .i64 x)) := by show _ = _; simp [go_sem]
  have K0 : Hid ((w.alloc (.cells #[.int .i64 x, .int .i64 k, .int .i64 y, vs] 76)).cell? ⟨w.heap.size, 1, none⟩ = some (.int .i64 k)) := by show _ = _; simp [go_sem]
  clear s1 hS wf hnil hby ht hn hIs wx wk wy wfs bys
  go_enter Tryd.func8, Tryd.ntmps8
  go_wp2_with fail
  generalize w.alloc (.cells #[.int .i64 x, .int .i64 k, .int .i64 y, vs] 76) = w0 at *
  refine HL.out.mono ?_
  rintro e w1 ⟨rfl, hb1⟩
  have B1 := hideD (hb1)
  have S11 := hideD (S1.out _ (beyondD B0.out hb1))
  clear HL hb1 S1
  go_wp2_with fail
  refine S11.out.mono ?_
  rintro e w2 ⟨⟨p, rfl, hp⟩, hb2⟩
  have B2 := hideD (beyondD B1.out hb2.out)
  clear S11 hb2 B1
  cases o1 with
  | none =>
    obtain rfl := hp.out
    clear hp z1 N1
    go_wp2_with fail
    go_ret
    exact ⟨rfl, beyondD B0.out B2.out⟩
  | some u =>
    obtain ⟨N, c⟩ := u
    obtain ⟨hN, c32, b, rfl, hz⟩ := hp.out
    have zc := z1 N c rfl
    clear hp z1 N1
    have X2 := hideD (kc _ _ B2.out X0.out)
    have K2 := hideD (kc _ _ B2.out K0.out)
    have Z2 := hideD hz
    clear hz X0 K0
    obtain ⟨cu, zu, iu, TU⟩ := up_tells hN (m := (N + 1) * (N + 1)) rfl zc
    obtain ⟨cd, zd, id, TD⟩ := down_tells hN (m := (N + 1) * (N + 1)) rfl zc
    have HU := hideD TU
    have HD := hideD TD
    clear TU TD
    have HX := hideD (HU.out c (.inl rfl) w2 b Z2.out)
    go_wp2_with fail
    refine HX.out.mono ?_
    rintro e w3 ⟨⟨B, pa, -, rfl, hz⟩, hb⟩
    have X_1 := hideD (kc _ _ hb X2.out)
    have K_1 := hideD (kc _ _ hb K2.out)
    have Z_1 := hideD (Z2.out.past hb)
    have B_1 := hideD (beyondD B2.out hb)
    clear HX hb X2 K2 Z2 B2
    have A := hideD hz
    clear hz
    have HX := hideD (HU.out cu (.inr rfl) w3 pa A.out)
    go_wp2_with fail
    refine HX.out.mono ?_
    rintro e w4 ⟨⟨B, pb, -, rfl, hz⟩, hb⟩
    have X_2 := hideD (kc _ _ hb X_1.out)
    have K_2 := hideD (kc _ _ hb K_1.out)
    have Z_2 := hideD (Z_1.out.past hb)
    have A_2 := hideD (A.out.past hb)
    have B_2 := hideD (beyondD B_1.out hb)
    clear HX hb X_1 K_1 Z_1 A B_1
    have A2 := hideD hz
    clear hz
    have HX := hideD (HD.out c (.inl rfl) w4 b Z_2.out)
    go_wp2_with fail
    refine HX.out.mono ?_
    rintro e w5 ⟨⟨B, pc, -, rfl, hz⟩, hb⟩
    have X_3 := hideD (kc _ _ hb X_2.out)
    have K_3 := hideD (kc _ _ hb K_2.out)
    have Z_3 := hideD (Z_2.out.past hb)
    have A_3 := hideD (A_2.out.past hb)
    have A2_3 := hideD (A2.out.past hb)
    have B_3 := hideD (beyondD B_2.out hb)
    clear HX hb X_2 K_2 Z_2 A_2 A2 B_2
    have C := hideD hz
    clear hz
    have HX := hideD (HD.out cd (.inr rfl) w5 pc C.out)
    go_wp2_with fail
    refine HX.out.mono ?_
    rintro e w6 ⟨⟨B, pd, -, rfl, hz⟩, hb⟩
    have X_4 := hideD (kc _ _ hb X_3.out)
    have K_4 := hideD (kc _ _ hb K_3.out)
    have Z_4 := hideD (Z_3.out.past hb)
    have A_4 := hideD (A_3.out.past hb)
    have A2_4 := hideD (A2_3.out.past hb)
    have C_4 := hideD (C.out.past hb)
    have B_4 := hideD (beyondD B_3.out hb)
    clear HX hb X_3 K_3 Z_3 A_3 A2_3 C B_3
    have C2 := hideD hz
    clear hz
    have HX := hideD (eql_same pa pb N cu w6 A_4.out A2_4.out)
    go_wp2_with fail
    refine HX.out.mono ?_
    rintro e w7 ⟨rfl, hb⟩
    have X_5 := hideD (kc _ _ hb X_4.out)
    have K_5 := hideD (kc _ _ hb K_4.out)
    have Z_5 := hideD (Z_4.out.past hb)
    have A_5 := hideD (A_4.out.past hb)
    have A2_5 := hideD (A2_4.out.past hb)
    have C_5 := hideD (C_4.out.past hb)
    have C2_5 := hideD (C2.out.past hb)
    have B_5 := hideD (beyondD B_4.out hb)
    clear HX hb X_4 K_4 Z_4 A_4 A2_4 C_4 C2 B_4
    have HX := hideD (eql_same pc pd N cd w7 C_5.out C2_5.out)
    go_wp2_with fail
    refine HX.out.mono ?_
    rintro e w8 ⟨rfl, hb⟩
    have X_6 := hideD (kc _ _ hb X_5.out)
    have K_6 := hideD (kc _ _ hb K_5.out)
    have Z_6 := hideD (Z_5.out.past hb)
    have A_6 := hideD (A_5.out.past hb)
    have A2_6 := hideD (A2_5.out.past hb)
    have C_6 := hideD (C_5.out.past hb)
    have C2_6 := hideD (C2_5.out.past hb)
    have B_6 := hideD (beyondD B_5.out hb)
    clear HX hb X_5 K_5 Z_5 A_5 A2_5 C_5 C2_5 B_5
    have HX := hideD (inc_true iu A_6.out Z_6.out hN rfl)
    go_wp2_with fail
    refine HX.out.mono ?_
    rintro e w9 ⟨rfl, hb⟩
    have X_7 := hideD (kc _ _ hb X_6.out)
    have K_7 := hideD (kc _ _ hb K_6.out)
    have Z_7 := hideD (Z_6.out.past hb)
    have A_7 := hideD (A_6.out.past hb)
    have A2_7 := hideD (A2_6.out.past hb)
    have C_7 := hideD (C_6.out.past hb)
    have C2_7 := hideD (C2_6.out.past hb)
    have B_7 := hideD (beyondD B_6.out hb)
    clear HX hb X_6 K_6 Z_6 A_6 A2_6 C_6 C2_6 B_6
    have HX := hideD (inc_true id C_7.out Z_7.out hN rfl)
    go_wp2_with fail
    refine HX.out.mono ?_
    rintro e w10 ⟨rfl, hb⟩
    have X_8 := hideD (kc _ _ hb X_7.out)
    have K_8 := hideD (kc _ _ hb K_7.out)
    have Z_8 := hideD (Z_7.out.past hb)
    have A_8 := hideD (A_7.out.past hb)
    have A2_8 := hideD (A2_7.out.past hb)
    have C_8 := hideD (C_7.out.past hb)
    have C2_8 := hideD (C2_7.out.past hb)
    have B_8 := hideD (beyondD B_7.out hb)
    clear HX hb X_7 K_7 Z_7 A_7 A2_7 C_7 C2_7 B_7
    clear A_8
    clear A2_8
    clear C_8
    clear C2_8
    clear HU HD
    by_cases hs : setE N x k = 0
    · have hs1 := hs
      unfold setE at hs1
      obtain ⟨hx, hk⟩ : clockB N x = true ∧ (0 ≤ k ∧ k ≤ 1048576) := by
        split at hs1
        · rename_i a
          split at hs1
          · rename_i b
            exact ⟨a, b⟩
          · cases hs1
        · cases hs1
      have hx := of_decide_eq_true hx
      obtain ⟨X, rfl⟩ := Int.eq_ofNat_of_zero_le (show 0 ≤ x by omega)
      obtain ⟨o1, T1, R1⟩ := set_tells hN (m := (N + 1) * (N + 1)) rfl zc (show 1 ≤ X by omega) (show X ≤ N by omega) hk.1 hk.2
      have H1 := hideD T1
      clear T1 hs hs1 hx hk
      cases o1 with
      | none =>
        clear R1
        have cx := X_8.out
        have ck := K_8.out
        have HX := hideD (H1.out w10 b Z_8.out)
        go_wp2_with fail
        refine HX.out.mono ?_
        rintro e w11 ⟨⟨B, hO⟩, hb⟩
        have X_9 := hideD (kc _ _ hb X_8.out)
        have K_9 := hideD (kc _ _ hb K_8.out)
        have Z_9 := hideD (Z_8.out.past hb)
        have B_9 := hideD (beyondD B_8.out hb)
        clear HX hb X_8 K_8 Z_8 B_8
        obtain rfl : e = errOf 10 := hO
        go_wp2_with fail
        go_ret
        exact ⟨rfl, beyondD B0.out B_9.out⟩
      | some cr =>
        obtain ⟨c2, z2, i2, T2, T3, o3, T4, R4⟩ := R1 cr rfl
        have H2 := hideD T2
        have H3 := hideD T3
        have H4 := hideD T4
        clear T2 T3 T4 R1
        have cx := X_8.out
        have ck := K_8.out
        have HX := hideD (H1.out w10 b Z_8.out)
        go_wp2_with fail
        refine HX.out.mono ?_
        rintro e w11 ⟨⟨B, pr, -, rfl, hz⟩, hb⟩
        have X_9 := hideD (kc _ _ hb X_8.out)
        have K_9 := hideD (kc _ _ hb K_8.out)
        have Z_9 := hideD (Z_8.out.past hb)
        have B_9 := hideD (beyondD B_8.out hb)
        clear HX hb X_8 K_8 Z_8 B_8
        have R := hideD hz
        clear hz
        clear cx ck
        have cx := X_9.out
        have ck := K_9.out
        have HX := hideD (H2.out w11 pr R.out)
        go_wp2_with fail
        refine HX.out.mono ?_
        rintro e w12 ⟨⟨B, py, -, rfl, hz⟩, hb⟩
        have X_10 := hideD (kc _ _ hb X_9.out)
        have K_10 := hideD (kc _ _ hb K_9.out)
        have Z_10 := hideD (Z_9.out.past hb)
        have R_10 := hideD (R.out.past hb)
        have B_10 := hideD (beyondD B_9.out hb)
        clear HX hb X_9 K_9 Z_9 R B_9
        have Y := hideD hz
        clear hz
        clear cx ck
        have bo := below_one w12 (.cells #[.int .i64 X] 3)
        have BX := hideD (beyondD B_10.out bo)
        have ZX := hideD (Z_10.out.past bo)
        have YX := hideD (Y.out.past bo)
        have RX := hideD (R_10.out.past bo)
        have XX := hideD (kc _ _ bo X_10.out)
        have KX := hideD (kc _ _ bo K_10.out)
        have cx := X_10.out
        have ck := K_10.out
        clear bo
        have HX := hideD (H3.out (w12.alloc (.cells #[.int .i64 X] 3)) b w12.heap.size 1 ZX.out (by simp [go_sem]))
        go_wp2_with fail
        refine HX.out.mono ?_
        rintro e w13 ⟨⟨B, pw, -, rfl, hz⟩, hb⟩
        have X_11 := hideD (kc _ _ hb XX.out)
        have K_11 := hideD (kc _ _ hb KX.out)
        have Z_11 := hideD (ZX.out.past hb)
        have Y_11 := hideD (YX.out.past hb)
        have B_11 := hideD (beyondD BX.out hb)
        clear HX hb XX KX ZX YX BX
        have V := hideD hz
        clear hz
        clear cx ck
        have HX := hideD (eql_same py pw N c2 w13 Y_11.out V.out)
        go_wp2_with fail
        refine HX.out.mono ?_
        rintro e w14 ⟨rfl, hb⟩
        have X_12 := hideD (kc _ _ hb X_11.out)
        have K_12 := hideD (kc _ _ hb K_11.out)
        have Z_12 := hideD (Z_11.out.past hb)
        have Y_12 := hideD (Y_11.out.past hb)
        have V_12 := hideD (V.out.past hb)
        have B_12 := hideD (beyondD B_11.out hb)
        clear HX hb X_11 K_11 Z_11 Y_11 V B_11
        have HX := hideD (inc_true i2 Y_12.out Z_12.out hN rfl)
        go_wp2_with fail
        refine HX.out.mono ?_
        rintro e w15 ⟨rfl, hb⟩
        have X_13 := hideD (kc _ _ hb X_12.out)
        have K_13 := hideD (kc _ _ hb K_12.out)
        have Z_13 := hideD (Z_12.out.past hb)
        have Y_13 := hideD (Y_12.out.past hb)
        have V_13 := hideD (V_12.out.past hb)
        have B_13 := hideD (beyondD B_12.out hb)
        clear HX hb X_12 K_12 Z_12 Y_12 V_12 B_12
        cases o3 with
        | none =>
          clear R4
          have cx := X_13.out
          have ck := K_13.out
          have HX := hideD (H4.out w15 b Z_13.out)
          go_wp2_with fail
          refine HX.out.mono ?_
          rintro e w16 ⟨⟨B, hO⟩, hb⟩
          have X_14 := hideD (kc _ _ hb X_13.out)
          have K_14 := hideD (kc _ _ hb K_13.out)
          have Z_14 := hideD (Z_13.out.past hb)
          have Y_14 := hideD (Y_13.out.past hb)
          have V_14 := hideD (V_13.out.past hb)
          have B_14 := hideD (beyondD B_13.out hb)
          clear HX hb X_13 K_13 Z_13 Y_13 V_13 B_13
          obtain rfl : e = errOf 10 := hO
          go_wp2_with fail
          go_ret
          exact ⟨rfl, beyondD B0.out B_14.out⟩
        | some c3 =>
          obtain ⟨o4, T5, R5⟩ := R4 c3 rfl
          have H5 := hideD T5
          clear T5 R4
          have cx := X_13.out
          have ck := K_13.out
          have HX := hideD (H4.out w15 b Z_13.out)
          go_wp2_with fail
          refine HX.out.mono ?_
          rintro e w16 ⟨⟨B, pu, -, rfl, hz⟩, hb⟩
          have X_14 := hideD (kc _ _ hb X_13.out)
          have K_14 := hideD (kc _ _ hb K_13.out)
          have Z_14 := hideD (Z_13.out.past hb)
          have Y_14 := hideD (Y_13.out.past hb)
          have V_14 := hideD (V_13.out.past hb)
          have B_14 := hideD (beyondD B_13.out hb)
          clear HX hb X_13 K_13 Z_13 Y_13 V_13 B_13
          have U := hideD hz
          clear hz
          clear cx ck
          cases o4 with
          | none =>
            clear R5
            have cx := X_14.out
            have ck := K_14.out
            have HX := hideD (H5.out w16 pu U.out)
            go_wp2_with fail
            refine HX.out.mono ?_
            rintro e w17 ⟨⟨B, hO⟩, hb⟩
            have X_15 := hideD (kc _ _ hb X_14.out)
            have K_15 := hideD (kc _ _ hb K_14.out)
            have Z_15 := hideD (Z_14.out.past hb)
            have Y_15 := hideD (Y_14.out.past hb)
            have V_15 := hideD (V_14.out.past hb)
            have U_15 := hideD (U.out.past hb)
            have B_15 := hideD (beyondD B_14.out hb)
            clear HX hb X_14 K_14 Z_14 Y_14 V_14 U B_14
            obtain rfl : e = errOf 10 := hO
            go_wp2_with fail
            go_ret
            exact ⟨rfl, beyondD B0.out B_15.out⟩
          | some c4 =>
            have i4 := R5 c4 rfl
            clear R5
            have cx := X_14.out
            have ck := K_14.out
            have HX := hideD (H5.out w16 pu U.out)
            go_wp2_with fail
            refine HX.out.mono ?_
            rintro e w17 ⟨⟨B, pt, -, rfl, hz⟩, hb⟩
            have X_15 := hideD (kc _ _ hb X_14.out)
            have K_15 := hideD (kc _ _ hb K_14.out)
            have Z_15 := hideD (Z_14.out.past hb)
            have Y_15 := hideD (Y_14.out.past hb)
            have V_15 := hideD (V_14.out.past hb)
            have U_15 := hideD (U.out.past hb)
            have B_15 := hideD (beyondD B_14.out hb)
            clear HX hb X_14 K_14 Z_14 Y_14 V_14 U B_14
            have T := hideD hz
            clear hz
            clear cx ck
            have HX := hideD (inc_true i4 Z_15.out T.out hN rfl)
            go_wp2_with fail
            refine HX.out.mono ?_
            rintro e w18 ⟨rfl, hb⟩
            have X_16 := hideD (kc _ _ hb X_15.out)
            have K_16 := hideD (kc _ _ hb K_15.out)
            have Z_16 := hideD (Z_15.out.past hb)
            have Y_16 := hideD (Y_15.out.past hb)
            have V_16 := hideD (V_15.out.past hb)
            have U_16 := hideD (U_15.out.past hb)
            have T_16 := hideD (T.out.past hb)
            have B_16 := hideD (beyondD B_15.out hb)
            clear HX hb X_15 K_15 Z_15 Y_15 V_15 U_15 T B_15
            go_wp2_with fail
            go_ret
            exact ⟨rfl, beyondD B0.out B_16.out⟩
    · have he : (setE N x k != 0) = true := by simpa using hs
      have cx := X_8.out
      have ck := K_8.out
      have HX := hideD (reset_err (.pointer (some ⟨b, 0, none⟩)) x k _ w10 he (settable_any b N c x k w10 hN Z_8.out))
      go_wp2_with fail
      refine HX.out.mono ?_
      rintro e w11 ⟨rfl, hb⟩
      have X_9 := hideD (kc _ _ hb X_8.out)
      have K_9 := hideD (kc _ _ hb K_8.out)
      have Z_9 := hideD (Z_8.out.past hb)
      have B_9 := hideD (beyondD B_8.out hb)
      clear HX hb X_8 K_8 Z_8 B_8
      generalize setE N x k = E at *
      go_wp2_with fail
      go_ret
      exact ⟨rfl, beyondD B0.out B_9.out⟩
end Go.Proofs.YtfffcmelkdmjaaaDoor
