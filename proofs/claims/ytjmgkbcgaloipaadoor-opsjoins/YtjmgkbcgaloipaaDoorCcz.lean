/-
  The document's Hull.
-/
import Derived.Test.YtjmgkbcgaloipaaDoorCbz
namespace Go.Proofs.YtjmgkbcgaloipaaDoor
open Go.RowKit
set_option linter.unusedVariables false
set_option maxRecDepth 100000
theorem info_rzp : (Tryd.prog.info? 24).map (fun i => (i.zero, i.size, i.bytes)) = some (some (.pointer none), 1, 8) := by kernel_rfl
/-- What a pointer tells of the hull so far. -/
def PSt (base : Nat) (w : World) (v : Value) (n m : Nat) : Option Mat → Prop
  | none => v = .pointer none
  | some r => ∃ d g, v = .pointer (some ⟨d, 0, none⟩) ∧ base ≤ d ∧ base ≤ g ∧ RC w d g n m r
theorem PSt.past {base : Nat} {w w' : World} {v : Value} {n m : Nat} {o : Option Mat} (h : PSt base w v n m o) (hb : Below w.heap.size w w') : PSt base w' v n m o := by
  cases o with
  | none => exact h
  | some r => obtain ⟨d, g, e, h1, h2, h3⟩ := h; exact ⟨d, g, e, h1, h2, h3.past hb⟩
set_option maxHeartbeats 8000000 in
theorem rhull_main (r n m cap q : Nat) (ad : Option Addr) (zb zB' : Nat → Nat) (zc : Nat → Row) (o : Option Row) (w : World) (hn : n ≤ 8) (hm : m = (n + 1) * (n + 1)) (hq : (q + 1) * 8 ≤ 140737488355328) (hr0 : zb 0 = r)
    (hnil : ad = none → q = 0 ∧ cap = 0) (hp : ∀ a, ad = some a → ∀ k, k < q → w.cell? (a.add k) = some (.pointer (some ⟨zb (k + 1), 0, none⟩)))
    (hy : ∀ k, k < q + 1 → RZone w (zB' k) (zb k) n (listOf (zc k) m)) (hyc : ∀ k, C32 (zc k)) (hy01 : ∀ k, zc k 0 = 0 ∨ zc k 0 = 1)
    (hJ : Calls Tryd.prog 100 #[.pointer (some ⟨r, 0, none⟩), .slice ad q cap] w fun e w' => e = .returned (.int .i64 0) ∧ w' = w)
    (hN : hxK n m zc (q + 1) = none → o = some fun _ => 0) (hF : ∀ p, hxK n m zc (q + 1) = some p → Ok n p ∧ (∀ j, j ≤ n → p 0 j ≤ 1) ∧ zoneR n p = o) :
    Calls Tryd.prog 40 #[.pointer (some ⟨r, 0, none⟩), .slice ad q cap] w fun e w' => RefOut w' n m e o ∧ Below w.heap.size w w' := by
  have mp : 0 < m := by rw [hm]; exact Nat.mul_pos (by omega) (by omega)
  obtain ⟨i0, hi0, hzz0, hzz1, hzz2⟩ := info3 info_rzp
  have HJ := hideD hJ
  have HD : Hid (∀ w', Below w.heap.size w w' → Calls Tryd.prog 82 #[.pointer (some ⟨r, 0, none⟩)] w' fun e w'' => e = .returned (.int .i64 n) ∧ w'' = w') := fun w' hb => rdim_any (by have := (hy 0 (by omega)).past hb; rw [hr0] at this; exact this)
  have HEk : Hid (∀ k w', k < q + 1 → Below w.heap.size w w' → _) := fun k w' hk hb => rempty_is ((hy k hk).past hb) mp
  have HN : Hid (∀ w, _) := fun w => nothing_any n m w hn hm
  have HOk : Hid (∀ k w', k < q + 1 → Below w.heap.size w w' → _) := fun k w' hk hb => open_any (zb k) n m (zB' k) (listOf (zc k) m) w' hn hm (listOf_len _ m) (fun j hj => by rw [listOf_get _ m j hj]; exact hyc k j) ((hy k hk).past hb)
  have HSh : Hid (∀ d g s w, RC w d g n m s → Ok n s → (∀ j, j ≤ n → s 0 j ≤ 1) → _) := fun d g s w hr h1 h2 => shut_any d g n m s w hn hm hr h1 h2
  have HQ : Hid (∀ k, k < m → k / (n + 1) ≤ n ∧ k % (n + 1) ≤ n ∧ k / (n + 1) * (n + 1) + k % (n + 1) = k) := fun k hk => ⟨by rw [hm] at hk; have := Nat.div_lt_of_lt_mul hk; omega, by have := Nat.mod_lt k (show 0 < n + 1 by omega); omega, by rw [Nat.mul_comm]; exact Nat.div_add_mod k (n + 1)⟩
  have HO := hideD hN
  have HF := hideD hF
  have H01 := hideD hy01
  have q1 : (q : Int) ≤ 9223372036854775806 := by omega
  have m81 : m ≤ 81 := by rw [hm]; exact Nat.mul_le_mul (show n + 1 ≤ 9 by omega) (show n + 1 ≤ 9 by omega)
  have m1 : (m : Int) ≤ 81 := by omega
  have news : Hid (∀ (w' : World), Below w.heap.size w w' → ∀ d, ad = some d → ∀ j u, ((List.range q).map fun k => Value.pointer (some ⟨zb (k + 1), 0, none⟩))[j]? = some u → w'.cell? (d.add j) = some u) := fun w' hb d e j u hu => by
    by_cases hj : j < q
    · simp [hj] at hu
      rw [← hu]
      exact kc _ _ hb (hp d e j hj)
    · rw [List.getElem?_eq_none (by simp; omega)] at hu
      cases hu
  clear hJ hy hyc hN hF hy01 hm hp
  go_enter Tryd.func40, Tryd.ntmps40
  go_wp2_with fail
  refine HJ.out.mono ?_
  rintro e w1 ⟨rfl, rfl⟩
  clear HJ
  go_wp2_with (at_builtin; refine wp_app_any _ rfl _ _ 54 rfl w1.heap.size 24 i0 (.pointer none) 1 8 Tryd.underlying54 hi0 hzz0 hzz1 hzz2 rfl (by decide) _ 1 [.pointer (some ⟨r, 0, none⟩)] rfl (World.ownsRow_lit w1 #[.pointer (some ⟨r, 0, none⟩)] 1 (Nat.le_refl _) (by decide) rfl) ad q cap ((List.range q).map fun k => Value.pointer (some ⟨zb (k + 1), 0, none⟩)) rfl hnil (by simp) (news.out _ (below_one _ _)) (fun u hu => by obtain ⟨z, _, rfl⟩ := List.mem_map.1 hu; rfl) (by unfold maxLen; omega) (by omega) (by simp) ?_; intro v' w2 hown hgrow)
  have B2 : Hid (Below w1.heap.size w1 w2) := by
    rcases hgrow with e | hg
    · rw [e]; exact below_one _ _
    · exact (below_one w1 _).grown hg (by simp) (by intro k hk; cases hk; exact Nat.le_refl _)
  rw [show 1 + q = q + 1 by omega] at hown
  obtain ⟨ga, capa, rfl⟩ := own_form hown
  have HP : Hid (∀ k, k < q + 1 → w2.cell? ⟨ga, k, none⟩ = some (.pointer (some ⟨zb k, 0, none⟩))) := fun k hk => by
    rw [hown.cellAt k (by omega)]
    cases k with
    | zero => rw [hr0]; rfl
    | succ k => simp [show k < q by omega]
  clear hown hgrow hi0 hzz0 hzz1 hzz2 news hnil
  generalize eN : q + 1 = N at *
  have n1 : (N : Int) ≤ 9223372036854775807 := by omega
  have n0 : ((q : Int) + 1) = (N : Int) := by omega
  try rw [n0]
  go_wp2_with fail
  go_loopw [8, 9] (fun p s wr => ∃ K : Nat, K ≤ N ∧ s = .int .i64 (K : Int) ∧ Hid (PSt w2.heap.size wr p n m (hxK n m zc K)) ∧ Hid (Below w2.heap.size w2 wr)) (fun _ s _ => N - (intOf s).toNat)
  case atStart => exact ⟨0, by omega, rfl, rfl, Below.refl _ _⟩
  case round =>
    obtain ⟨K, hK, rfl, hP, hB⟩ := hrel
    have hB1 := hideD (beyondD B2.out hB.out)
    by_cases ck : K < N
    · have k0 : (0 : Int) ≤ (K : Int) := by omega
      have k1 : (K : Int) < (N : Int) := by omega
      have c0 := kc _ _ hB.out (HP.out K ck)
      have HEK := hideD (HEk.out K wr ck hB1.out)
      have nx : Hid (hxK n m zc (K + 1) = hxN n m (zc K) (hxK n m zc K)) := rfl
      rcases H01.out K with z0 | z0
      · rw [z0] at HEK
        unfold hxN at nx
        rw [if_pos z0] at nx
        have hP2 := hideD (nx.out.symm ▸ hP.out)
        clear HEk HOk HSh HQ HO HF H01 HD HP HN hP nx
        go_wp2_with fail
        refine HEK.out.mono ?_
        rintro e w3 ⟨rfl, rfl⟩
        go_wp2_with fail
        go_roundw
        case rel => exact ⟨K + 1, by omega, by go_num, hP2, hB⟩
        case measure => simp [intOf]; omega
      · rw [z0] at HEK
        have HOK := hideD (HOk.out K wr ck hB1.out)
        unfold hxN at nx
        rw [if_neg (by omega)] at nx
        clear HEk HOk HSh HO HF H01 HD HP HN
        cases eh : hxK n m zc K with
        | none =>
          rw [eh] at hP nx
          obtain rfl := hP.out
          clear hP
          go_wp2_with fail
          refine HEK.out.mono ?_
          rintro e w3 ⟨rfl, rfl⟩
          go_wp2_with fail
          refine HOK.out.mono ?_
          rintro e w4 ⟨⟨d2, g2, rfl, hd2, hg2, hR2⟩, hb4⟩
          have hP2 : Hid (PSt w2.heap.size w4 (.pointer (some ⟨d2, 0, none⟩)) n m (hxK n m zc (K + 1))) := by show PSt _ _ _ _ _ _; rw [nx.out]; exact ⟨d2, g2, rfl, Nat.le_trans hB.out.size hd2, Nat.le_trans hB.out.size hg2, hR2⟩
          have B4 := hideD (beyondD hB.out hb4)
          clear HEK HOK hb4 hR2 hB hB1 c0 nx
          go_wp2_with fail
          go_roundw
          case rel => exact ⟨K + 1, by omega, by go_num, hP2, B4⟩
          case measure => simp [intOf]; omega
        | some rK =>
          rw [eh] at hP nx
          obtain ⟨d, g, rfl, hd, hg, hR⟩ := hP.out
          clear hP
          generalize rowMat n (listOf (zc K) m) = s0 at *
          go_wp2_with fail
          refine HEK.out.mono ?_
          rintro e w3 ⟨rfl, rfl⟩
          go_wp2_with fail
          refine HOK.out.mono ?_
          rintro e w4 ⟨⟨d2, g2, rfl, hd2, hg2, hR2⟩, hb4⟩
          have R4 := hideD (hR.past hb4)
          have S4 := hideD hR2
          have B4 := hideD (beyondD hB.out hb4)
          have gd2 : g < d2 := Nat.lt_of_lt_of_le hR.lt.2 hd2
          have gg2 : g < g2 := Nat.lt_of_lt_of_le hR.lt.2 hg2
          clear HEK HOK hb4 hR2 hR hB hB1 c0
          go_wp2_with fail
          go_loopw [11] (fun s w' => ∃ J : Nat, J ≤ m ∧ s = .int .i64 (J : Int) ∧ Hid (RC w' d g n m (outK n s0 J rK)) ∧ Hid (RC w' d2 g2 n m s0) ∧ Hid (Below w2.heap.size w2 w')) (fun s _ => m - (intOf s).toNat)
          case atStart => exact ⟨0, by omega, rfl, R4, S4, B4⟩
          case round =>
            obtain ⟨J, hJ, rfl, hR, hS, hB⟩ := hrel
            clear R4 S4 B4
            obtain ⟨cp, x0, x1, xn, x3⟩ := hR.out
            obtain ⟨cp2, y0, y1, yn, y3⟩ := hS.out
            by_cases cj : J < m
            · obtain ⟨i1, j1, ij⟩ := HQ.out J cj
              have xc := x3.cell _ _ i1 j1
              have xf := x3.free _ _ i1 j1
              have yc := y3.cell _ _ i1 j1
              rw [ij] at xc xf yc
              have nx2 : Hid (outK n s0 (J + 1) rK = moreM (outK n s0 J rK) (J / (n + 1)) (J % (n + 1)) (s0 (J / (n + 1)) (J % (n + 1)))) := rfl
              have st : Hid (∀ k v, RC ((wr.drewN k).setCell ⟨g, J, none⟩ (.int .i64 v)) d g n m (upd (outK n s0 J rK) (J / (n + 1)) (J % (n + 1)) v)) := fun k v => by
                have := (hR.out.drewN k).set i1 j1 v
                rw [ij] at this
                exact this
              have ss : Hid (∀ k v, RC ((wr.drewN k).setCell ⟨g, J, none⟩ (.int .i64 v)) d2 g2 n m s0) := fun k v => by
                have hs := hS.out.drewN k
                have OB : OnlyB g (wr.drewN k) ((wr.drewN k).setCell ⟨g, J, none⟩ (.int .i64 v)) := (OnlyB.refl g _).set rfl _
                obtain ⟨cc, u0, u1, u2, u3⟩ := hs
                have l1 : d2 < (wr.drewN k).heap.size := World.block_lt_of_cell? _ _ u0
                have l2 : g2 < (wr.drewN k).heap.size := u3.lt
                exact ⟨cc, (OB.cell (p := ⟨d2, 0, none⟩) l1 (by show d2 ≠ g; omega)).trans u0, (OB.cell (p := ⟨d2, 1, none⟩) l1 (by show d2 ≠ g; omega)).trans u1, u2, fun a b ha hb => (OB.cell (p := ⟨g2, a * (n + 1) + b, none⟩) l2 (by show g2 ≠ g; omega)).trans (u3.cell a b ha hb), fun a b ha hb => (OB.frozen (p := ⟨g2, a * (n + 1) + b, none⟩) l2 (by show g2 ≠ g; omega)).trans (u3.free a b ha hb)⟩
              have sb : Hid (∀ k v, Below w2.heap.size w2 ((wr.drewN k).setCell ⟨g, J, none⟩ (.int .i64 v))) := fun k v => (below_drewN hB.out k).setCell (p := ⟨g, J, none⟩) hg _
              generalize outK n s0 J rK = rJ at *
              generalize J / (n + 1) = i at *
              generalize J % (n + 1) = j at *
              have k0 : (0 : Int) ≤ (J : Int) := by omega
              have k1 : (J : Int) < (m : Int) := by omega
              by_cases lt : rJ i j < s0 i j
              · have st2 : Hid (∀ k, RC ((wr.drewN k).setCell ⟨g, J, none⟩ (.int .i64 (s0 i j))) d g n m (outK n s0 (J + 1) rK)) := fun k => by rw [nx2.out]; unfold moreM; rw [if_pos lt]; exact st.out k _
                have ss2 := hideD (fun k => ss.out k (s0 i j))
                have sb2 := hideD (fun k => sb.out k (s0 i j))
                generalize s0 i j = y at *
                generalize rJ i j = x at *
                have dl : decide (x < y) = true := by simpa using lt
                have dl2 : decide (y > x) = true := by simpa using lt
                clear st ss sb nx2 hR hS hB x3 y3
                go_wp2_with fail
                go_quiet (fail)
                go_wp2_with fail
                go_big_region
                all_goals
                  go_wp2_with fail
                  exact ⟨⟨J + 1, by omega, by go_num, st2.out _, ss2.out _, sb2.out _⟩, by simp [intOf]; omega⟩
              · have st2 : Hid (∀ k, RC (wr.drewN k) d g n m (outK n s0 (J + 1) rK)) := fun k => by rw [nx2.out]; unfold moreM; rw [if_neg lt]; exact hR.out.drewN k
                have ss2 := hideD (fun k => hS.out.drewN k)
                have sb2 := hideD (fun k => below_drewN hB.out k)
                generalize s0 i j = y at *
                generalize rJ i j = x at *
                have dl : decide (x < y) = false := by simpa using lt
                have dl2 : decide (y > x) = false := by simpa using lt
                clear st ss sb nx2 hR hS hB x3 y3
                go_wp2_with fail
                go_quiet (fail)
                go_wp2_with fail
                go_roundw
                case rel => exact ⟨J + 1, by omega, by go_num, st2.out _, ss2.out _, sb2.out _⟩
                case measure => simp [intOf]; omega
            · have eJ : J = m := by omega
              have R5 : Hid (PSt w2.heap.size wr (.pointer (some ⟨d, 0, none⟩)) n m (hxK n m zc (K + 1))) := by show PSt _ _ _ _ _ _; rw [nx.out]; have h5 := hR.out; rw [eJ] at h5; exact ⟨d, g, rfl, hd, hg, h5⟩
              have k1 : ¬ ((J : Int) < (m : Int)) := by omega
              clear hR hS nx eJ x3 y3
              go_wp2_with fail
              go_roundw
              case rel => exact ⟨K + 1, by omega, by go_num, R5, hB⟩
              case measure => simp [intOf]; omega
    · have eK : K = N := by omega
      subst eK
      have k1 : ¬ ((K : Int) < (K : Int)) := by omega
      cases eh : hxK n m zc K with
      | none =>
        rw [eh] at hP
        obtain rfl := hP.out
        have o0 := HO.out eh
        subst o0
        have HDJ := hideD (HD.out wr hB1.out)
        clear HEk HOk HSh HQ HO HF H01 HD HP hP
        go_wp2_with fail
        refine HDJ.out.mono ?_
        rintro e w3 ⟨rfl, rfl⟩
        go_wp2_with fail
        refine (HN.out _).mono ?_
        rintro e w4 ⟨⟨b, B', rfl, hz⟩, hb⟩
        go_wp2_with fail
        exact bodyPost_ret (v := .tuple #[.pointer (some ⟨b, 0, none⟩), .int .i64 0]) (by simp [results, Tryd.results40, go_sem]) rfl ⟨⟨B', b, rfl, hz⟩, beyondD hB1.out hb⟩
      | some p =>
        rw [eh] at hP
        obtain ⟨d, g, rfl, hd, hg, hR⟩ := hP.out
        obtain ⟨ok1, ok2, ok3⟩ := HF.out p eh
        have HSK := hideD (HSh.out d g _ wr hR ok1 ok2)
        have FO2 : Hid (∀ w' e, ShutOut w' n m e p → RefOut w' n m e o) := fun w' e h => by rw [← ok3]; exact h
        clear ok1 ok2 ok3 HF HEk HOk HSh HQ HO H01 HD HP hP HN
        go_wp2_with fail
        refine HSK.out.mono ?_
        rintro e w3 ⟨⟨p', k', rfl, ho⟩, hb⟩
        have FIN := hideD (FO2.out _ _ ho.out)
        have B3 := hideD (hB1.out.trans (hb.out.mono (Nat.le_trans B2.out.size hg)))
        clear ho hb HSK
        go_wp2_with fail
        exact bodyPost_ret (v := .tuple #[.pointer p', .int .i64 k']) (by simp [results, Tryd.results40, go_sem]) rfl ⟨FIN.out, B3.out⟩
end Go.Proofs.YtjmgkbcgaloipaaDoor
