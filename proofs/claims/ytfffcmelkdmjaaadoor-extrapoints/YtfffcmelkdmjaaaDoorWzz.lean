/-
  The document's And.
-/
import Derived.Test.YtfffcmelkdmjaaaDoorWyz
namespace Go.Proofs.YtfffcmelkdmjaaaDoor
open Go.RowKit
set_option linter.unusedVariables false
set_option maxRecDepth 100000
/-- The first K cells as strict as another zone's. -/
def inK (n : Nat) (s : Mat) : Nat → Mat → Mat
  | 0, r => r
  | K + 1, r => lessM (inK n s K r) (K / (n + 1)) (K % (n + 1)) (s (K / (n + 1)) (K % (n + 1)))
def mmK (n m : Nat) (zm : Nat → Mat) : Nat → Mat → Mat
  | 0, r => r
  | K + 1, r => inK n (zm K) m (mmK n m zm K r)
set_option maxHeartbeats 8000000 in
theorem rand_main (r n m B cap q gp off : Nat) (c : Row) (zb zB' : Nat → Nat) (zc : Nat → Row) (o : Option Row) (w : World) (hn : n ≤ 8) (hm : m = (n + 1) * (n + 1)) (h : RZone w B r n (listOf c m)) (hc : C32 c) (hq : q ≤ 9223372036854775807)
    (hp : ∀ k, k < q → w.cell? ⟨gp, off + k, none⟩ = some (.pointer (some ⟨zb k, 0, none⟩))) (hy : ∀ k, k < q → RZone w (zB' k) (zb k) n (listOf (zc k) m)) (hyc : ∀ k, C32 (zc k)) (h01 : c 0 = 0 ∨ c 0 = 1) (hy01 : ∀ k, zc k 0 = 0 ∨ zc k 0 = 1)
    (hO : (c 0 = 0 ∨ ∃ k, k < q ∧ zc k 0 = 0) → o = some fun _ => 0) (hF : c 0 = 1 → (∀ k, k < q → zc k 0 = 1) → Ok n (mmK n m (fun k => rowMat n (listOf (zc k) m)) q (rowMat n (listOf c m))) ∧ (∀ j, j ≤ n → mmK n m (fun k => rowMat n (listOf (zc k) m)) q (rowMat n (listOf c m)) 0 j ≤ 1) ∧ zoneR n (mmK n m (fun k => rowMat n (listOf (zc k) m)) q (rowMat n (listOf c m))) = o) :
    Calls Tryd.prog 38 #[.pointer (some ⟨r, 0, none⟩), .slice (some ⟨gp, off, none⟩) q cap] w fun e w' => RefOut w' n m e o ∧ Below w.heap.size w w' := by
  have mp : 0 < m := by rw [hm]; exact Nat.mul_pos (by omega) (by omega)
  have HJ : Hid (Calls Tryd.prog 100 #[.pointer (some ⟨r, 0, none⟩), .slice (some ⟨gp, off, none⟩) q cap] w fun e w' => e = .returned (.int .i64 0) ∧ w' = w) := by
    have gd : ∀ k, k < q → ((List.range q).map fun k => (some (zb k, n) : ZP)).getD k none = some (zb k, n) := fun k hk => by simp [List.getD, hk]
    have len : ((List.range q).map fun k => (some (zb k, n) : ZP)).length = q := by simp
    have H := rnils_main r n gp off cap q ((List.range q).map fun k => (some (zb k, n) : ZP)) w (by obtain ⟨g, cap, h0, -⟩ := h; exact h0) len hq (fun k hk => by
      rw [len] at hk
      rw [gd k hk]
      exact ⟨hp k hk, fun b' m' e => by cases e; obtain ⟨g, cap, h0, -⟩ := hy k hk; exact h0⟩)
    have hj : ∀ K, K ≤ q → jn n ((List.range q).map fun k => (some (zb k, n) : ZP)) K = 0 ∧ nn ((List.range q).map fun k => (some (zb k, n) : ZP)) K = true := by
      intro K
      induction K with
      | zero => intro _; exact ⟨rfl, rfl⟩
      | succ K ih =>
        intro hK
        obtain ⟨i1, i2⟩ := ih (by omega)
        constructor
        · unfold jn
          rw [gd K (by omega)]
          simp [i1]
        · unfold nn
          rw [i2, gd K (by omega)]
          rfl
    have e : joinE n ((List.range q).map fun k => (some (zb k, n) : ZP)) = 0 := by
      unfold joinE
      rw [len, if_pos (hj q (Nat.le_refl _)).2, (hj q (Nat.le_refl _)).1]
    rw [e] at H
    exact H
  have HD : Hid (∀ w', Below w.heap.size w w' → Calls Tryd.prog 82 #[.pointer (some ⟨r, 0, none⟩)] w' fun e w'' => e = .returned (.int .i64 n) ∧ w'' = w') := fun w' hb => rdim_any (h.past hb)
  have HE := hideD (rempty_is h mp)
  have HEk : Hid (∀ k w', k < q → Below w.heap.size w w' → _) := fun k w' hk hb => rempty_is ((hy k hk).past hb) mp
  have HN : Hid (∀ w, _) := fun w => nothing_any n m w hn hm
  have HOp := hideD (open_any r n m B (listOf c m) w hn hm (listOf_len c m) (fun j hj => by rw [listOf_get c m j hj]; exact hc j) h)
  have HOk : Hid (∀ k w', k < q → Below w.heap.size w w' → _) := fun k w' hk hb => open_any (zb k) n m (zB' k) (listOf (zc k) m) w' hn hm (listOf_len _ m) (fun j hj => by rw [listOf_get _ m j hj]; exact hyc k j) ((hy k hk).past hb)
  have HSh : Hid (∀ d g s w, RC w d g n m s → Ok n s → (∀ j, j ≤ n → s 0 j ≤ 1) → _) := fun d g s w hr h1 h2 => shut_any d g n m s w hn hm hr h1 h2
  have HQ : Hid (∀ k, k < m → k / (n + 1) ≤ n ∧ k % (n + 1) ≤ n ∧ k / (n + 1) * (n + 1) + k % (n + 1) = k) := fun k hk => ⟨by rw [hm] at hk; have := Nat.div_lt_of_lt_mul hk; omega, by have := Nat.mod_lt k (show 0 < n + 1 by omega); omega, by rw [Nat.mul_comm]; exact Nat.div_add_mod k (n + 1)⟩
  have HP := hideD hp
  have HO := hideD hO
  have HF := hideD hF
  have H01 := hideD hy01
  have q1 : (q : Int) ≤ 9223372036854775807 := by omega
  have m81 : m ≤ 81 := by rw [hm]; exact Nat.mul_le_mul (show n + 1 ≤ 9 by omega) (show n + 1 ≤ 9 by omega)
  have m1 : (m : Int) ≤ 81 := by omega
  clear h hc hp hy hyc hO hF hy01 hm
  generalize rowMat n (listOf c m) = r0 at *
  rcases h01 with e0 | e0
  · rw [e0] at HE
    have o0 := HO.out (.inl e0)
    subst o0
    have HDJ := hideD (HD.out w (Below.refl _ _))
    clear HEk HOp HOk HSh HQ HP HO HF H01 HD
    go_enter Tryd.func38, Tryd.ntmps38
    go_wp2_with fail
    refine HJ.out.mono ?_
    rintro e w1 ⟨rfl, rfl⟩
    go_wp2_with fail
    refine HE.out.mono ?_
    rintro e w1 ⟨rfl, rfl⟩
    go_wp2_with fail
    refine HDJ.out.mono ?_
    rintro e w1 ⟨rfl, rfl⟩
    go_wp2_with fail
    refine (HN.out _).mono ?_
    rintro e w2 ⟨⟨b, B', rfl, hz⟩, hb⟩
    go_wp2_with fail
    exact bodyPost_ret (v := .tuple #[.pointer (some ⟨b, 0, none⟩), .int .i64 0]) (by simp [results, Tryd.results38, go_sem]) rfl ⟨⟨B', b, rfl, hz⟩, hb⟩
  · rw [e0] at HE
    have HF2 : Hid ((∀ k, k < q → zc k 0 = 1) → _) := HF.out e0
    clear HF
    go_enter Tryd.func38, Tryd.ntmps38
    go_wp2_with fail
    refine HJ.out.mono ?_
    rintro e w1 ⟨rfl, rfl⟩
    go_wp2_with fail
    refine HE.out.mono ?_
    rintro e w1 ⟨rfl, rfl⟩
    go_wp2_with fail
    refine HOp.out.mono ?_
    rintro e w2 ⟨⟨d, g, rfl, hd, hg, hR⟩, hb⟩
    have R2 := hideD hR
    have B2 := hideD hb
    clear HJ HE HOp hR hb
    go_wp2_with fail
    go_loopw [8] (fun s wr => ∃ K : Nat, K ≤ q ∧ s = .int .i64 (K : Int) ∧ Hid (∀ k, k < K → zc k 0 = 1) ∧ Hid (RC wr d g n m (mmK n m (fun k => rowMat n (listOf (zc k) m)) K r0)) ∧ Hid (Below w1.heap.size w1 wr)) (fun s _ => q - (intOf s).toNat)
    case atStart => exact ⟨0, by omega, rfl, fun k hk => (by omega), R2, B2⟩
    case round =>
      obtain ⟨K, hK, rfl, h1, hR, hB⟩ := hrel
      clear R2 B2
      by_cases ck : K < q
      · have k0 : (0 : Int) ≤ (K : Int) := by omega
        have k1 : (K : Int) < (q : Int) := by omega
        have c0 := kc _ _ hB.out (HP.out K ck)
        have HEK := hideD (HEk.out K wr ck hB.out)
        rcases H01.out K with z0 | z0
        · rw [z0] at HEK
          have o0 := HO.out (.inr ⟨K, ck, z0⟩)
          subst o0
          have HDJ := hideD (HD.out wr hB.out)
          clear HEk HOk HSh HQ HP HO HF2 H01 HD hR
          go_wp2_with fail
          refine HEK.out.mono ?_
          rintro e w3 ⟨rfl, rfl⟩
          go_wp2_with fail
          refine HDJ.out.mono ?_
          rintro e w3 ⟨rfl, rfl⟩
          go_wp2_with fail
          refine (HN.out _).mono ?_
          rintro e w4 ⟨⟨b, B', rfl, hz⟩, hb⟩
          go_wp2_with fail
          exact bodyPost_ret (v := .tuple #[.pointer (some ⟨b, 0, none⟩), .int .i64 0]) (by simp [results, Tryd.results38, go_sem]) rfl ⟨⟨B', b, rfl, hz⟩, beyondD hB.out hb⟩
        · rw [z0] at HEK
          have HOK := hideD (HOk.out K wr ck hB.out)
          have h1' : Hid (∀ k, k < K + 1 → zc k 0 = 1) := fun k hk => by
            by_cases e : k = K
            · rw [e]; exact z0
            · exact h1.out k (by omega)
          have nx : Hid (mmK n m (fun k => rowMat n (listOf (zc k) m)) (K + 1) r0 = inK n (rowMat n (listOf (zc K) m)) m (mmK n m (fun k => rowMat n (listOf (zc k) m)) K r0)) := rfl
          generalize mmK n m (fun k => rowMat n (listOf (zc k) m)) K r0 = rK at *
          generalize rowMat n (listOf (zc K) m) = s0 at *
          clear h1
          go_wp2_with fail
          refine HEK.out.mono ?_
          rintro e w3 ⟨rfl, rfl⟩
          go_wp2_with fail
          refine HOK.out.mono ?_
          rintro e w4 ⟨⟨d2, g2, rfl, hd2, hg2, hR2⟩, hb4⟩
          have R4 := hideD (hR.out.past hb4)
          have S4 := hideD hR2
          have B4 := hideD (beyondD hB.out hb4)
          have gd2 : g < d2 := Nat.lt_of_lt_of_le hR.out.lt.2 hd2
          have gg2 : g < g2 := Nat.lt_of_lt_of_le hR.out.lt.2 hg2
          clear HEK HOK hb4 hR2 hR hB c0
          go_wp2_with fail
          go_loopw [10] (fun s w' => ∃ J : Nat, J ≤ m ∧ s = .int .i64 (J : Int) ∧ Hid (RC w' d g n m (inK n s0 J rK)) ∧ Hid (RC w' d2 g2 n m s0) ∧ Hid (Below w1.heap.size w1 w')) (fun s _ => m - (intOf s).toNat)
          case atStart => exact ⟨0, by omega, rfl, R4, S4, B4⟩
          case round =>
            obtain ⟨J, hJ, rfl, hR, hS, hB⟩ := hrel
            clear R4 S4 B4
            obtain ⟨cp, x0, x1, xn, x3⟩ := hR.out
            obtain ⟨cp2, y0, y1, yn, y3⟩ := hS.out
            by_cases cj : J < m
            · obtain ⟨i1, j1, ij⟩ := HQ.out J cj
              have xc := x3.cell _ _ i1 j1
              have xf := x3.free _ _ i1 j1
              have yc := y3.cell _ _ i1 j1
              rw [ij] at xc xf yc
              have nx2 : Hid (inK n s0 (J + 1) rK = lessM (inK n s0 J rK) (J / (n + 1)) (J % (n + 1)) (s0 (J / (n + 1)) (J % (n + 1)))) := rfl
              have st : Hid (∀ k v, RC ((wr.drewN k).setCell ⟨g, J, none⟩ (.int .i64 v)) d g n m (upd (inK n s0 J rK) (J / (n + 1)) (J % (n + 1)) v)) := fun k v => by
                have := (hR.out.drewN k).set i1 j1 v
                rw [ij] at this
                exact this
              have ss : Hid (∀ k v, RC ((wr.drewN k).setCell ⟨g, J, none⟩ (.int .i64 v)) d2 g2 n m s0) := fun k v => by
                have hs := hS.out.drewN k
                have OB : OnlyB g (wr.drewN k) ((wr.drewN k).setCell ⟨g, J, none⟩ (.int .i64 v)) := (OnlyB.refl g _).set rfl _
                obtain ⟨cc, u0, u1, u2, u3⟩ := hs
                have l1 : d2 < (wr.drewN k).heap.size := World.block_lt_of_cell? _ _ u0
                have l2 : g2 < (wr.drewN k).heap.size := u3.lt
                exact ⟨cc, (OB.cell (p := ⟨d2, 0, none⟩) l1 (by show d2 ≠ g; omega)).trans u0, (OB.cell (p := ⟨d2, 1, none⟩) l1 (by show d2 ≠ g; omega)).trans u1, u2, fun a b ha hb => (OB.cell (p := ⟨g2, a * (n + 1) + b, none⟩) l2 (by show g2 ≠ g; omega)).trans (u3.cell a b ha hb), fun a b ha hb => (OB.frozen (p := ⟨g2, a * (n + 1) + b, none⟩) l2 (by show g2 ≠ g; omega)).trans (u3.free a b ha hb)⟩
              have sb : Hid (∀ k v, Below w1.heap.size w1 ((wr.drewN k).setCell ⟨g, J, none⟩ (.int .i64 v))) := fun k v => (below_drewN hB.out k).setCell (p := ⟨g, J, none⟩) hg _
              generalize inK n s0 J rK = rJ at *
              generalize J / (n + 1) = i at *
              generalize J % (n + 1) = j at *
              have k0 : (0 : Int) ≤ (J : Int) := by omega
              have k1 : (J : Int) < (m : Int) := by omega
              by_cases lt : s0 i j < rJ i j
              · have st2 : Hid (∀ k, RC ((wr.drewN k).setCell ⟨g, J, none⟩ (.int .i64 (s0 i j))) d g n m (inK n s0 (J + 1) rK)) := fun k => by rw [nx2.out]; unfold lessM; rw [if_pos lt]; exact st.out k _
                have ss2 := hideD (fun k => ss.out k (s0 i j))
                have sb2 := hideD (fun k => sb.out k (s0 i j))
                generalize s0 i j = y at *
                generalize rJ i j = x at *
                have dl : decide (y < x) = true := by simpa using lt
                clear st ss sb nx2 hR hS hB x3 y3
                go_wp2_with fail
                go_quiet (fail)
                go_wp2_with fail
                go_big_region
                all_goals
                  go_wp2_with fail
                  exact ⟨⟨J + 1, by omega, by go_num, st2.out _, ss2.out _, sb2.out _⟩, by simp [intOf]; omega⟩
              · have st2 : Hid (∀ k, RC (wr.drewN k) d g n m (inK n s0 (J + 1) rK)) := fun k => by rw [nx2.out]; unfold lessM; rw [if_neg lt]; exact hR.out.drewN k
                have ss2 := hideD (fun k => hS.out.drewN k)
                have sb2 := hideD (fun k => below_drewN hB.out k)
                generalize s0 i j = y at *
                generalize rJ i j = x at *
                have dl : decide (y < x) = false := by simpa using lt
                clear st ss sb nx2 hR hS hB x3 y3
                go_wp2_with fail
                go_quiet (fail)
                go_wp2_with fail
                go_roundw
                case rel => exact ⟨J + 1, by omega, by go_num, st2.out _, ss2.out _, sb2.out _⟩
                case measure => simp [intOf]; omega
            · have eJ : J = m := by omega
              have R5 : Hid (RC wr d g n m (mmK n m (fun k => rowMat n (listOf (zc k) m)) (K + 1) r0)) := by show RC _ _ _ _ _ _; rw [nx.out]; have h5 := hR.out; rw [eJ] at h5; exact h5
              have k1 : ¬ ((J : Int) < (m : Int)) := by omega
              clear hR hS nx eJ x3 y3
              go_wp2_with fail
              go_roundw
              case rel => exact ⟨K + 1, by omega, by go_num, h1', R5, hB⟩
              case measure => simp [intOf]; omega
      · have eK : K = q := by omega
        subst eK
        obtain ⟨ok1, ok2, ok3⟩ := HF2.out h1.out
        have HSK := hideD (HSh.out d g _ wr hR.out ok1 ok2)
        have FO2 : Hid (∀ w' e, ShutOut w' n m e (mmK n m (fun k => rowMat n (listOf (zc k) m)) K r0) → RefOut w' n m e o) := fun w' e h => by rw [← ok3]; exact h
        have k1 : ¬ ((K : Int) < (K : Int)) := by omega
        clear ok1 ok2 ok3 HF2
        go_wp2_with fail
        refine HSK.out.mono ?_
        rintro e w3 ⟨⟨p', k', rfl, ho⟩, hb⟩
        have FIN := hideD (FO2.out _ _ ho.out)
        have B3 := hideD (hB.out.trans (hb.out.mono hg))
        clear ho hb HSK
        go_wp2_with fail
        exact bodyPost_ret (v := .tuple #[.pointer p', .int .i64 k']) (by simp [results, Tryd.results38, go_sem]) rfl ⟨FIN.out, B3.out⟩
end Go.Proofs.YtfffcmelkdmjaaaDoor
