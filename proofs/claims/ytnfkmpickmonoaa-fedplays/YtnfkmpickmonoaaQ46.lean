/-
  fed: Meet by the document.
-/
import Derived.Deep.RegionHeld3
import Derived.Test.YtnfkmpickmonoaaQ45
import Derived.Test.YtnfkmpickmonoaaQ32
namespace Go.Proofs.Ytnfkmpickmonoaa
open Go.RowKit Go.Shelf
set_option linter.unusedVariables false
set_option maxRecDepth 100000
attribute [local go_sem] Oper.semAt_some
set_option maxHeartbeats 4000000 in
theorem rmeet_any (fb zb n m : Nat) (zs : List RZR) (cs : List Row) (d : Row) (w : World) (hn : n ≤ 8) (hm : m = (n + 1) * (n + 1)) (hf : RFedAt w fb n m zs) (hcs : zs.map (·.2) = cs.map (fun c => listOf c m)) (hz : ZCs n m cs) (hy : RZone w 0 zb n (listOf d m)) (hd : ZC n m d) :
    Calls Try.prog 18 #[.pointer (some ⟨fb, 0, none⟩), .pointer (some ⟨zb, 0, none⟩)] w fun e w' => RMOut n m (meetL n m cs d) e w' ∧ Below w.heap.size w w' := by
  obtain ⟨i0, hi, hz0, hz1, hz2⟩ := info_parts info_rzp
  obtain ⟨v, c1, hown⟩ := hf.c1
  have c0 := hf.c0
  have HD : Hid (∀ W, Below w.heap.size w W → Calls Try.prog 43 #[.pointer (some ⟨zb, 0, none⟩)] W fun e w' => e = .returned (.int .i64 n) ∧ w' = W) := fun W hb => rdim_any (hy.past hb)
  obtain ⟨ad, cap, rfl⟩ := own_slR hown
  have ql := rs_len hcs
  obtain ⟨q, hq⟩ : ∃ q, zs.length = q := ⟨_, rfl⟩
  have HEL : Hid (∀ K, K < q → ∃ (g b : Nat) (c : Row), ad = some ⟨g, 0, none⟩ ∧ w.cell? ⟨g, K, none⟩ = some (.pointer (some ⟨b, 0, none⟩)) ∧ RZone w 0 b n (listOf c m) ∧ ZC n m c ∧ ¬ c 0 < 1 ∧ meetK n m cs d (K + 1) = layS (meetK n m cs d K) (comY n m c d)) := fun K hK => by
    have h1 : K < zs.length := by omega
    have h2 : K < cs.length := by omega
    rcases own_at hown with ⟨-, e2⟩ | ⟨g, cap', e1, -, -, hc⟩
    · omega
    · injection e1 with e1
      have e : zs[K].2 = listOf cs[K] m := by
        have := congrArg (fun l => l[K]?) hcs
        simp only [List.getElem?_map, List.getElem?_eq_getElem h1, List.getElem?_eq_getElem h2, Option.map_some] at this
        injection this
      have c := hc K (pvR7 zs[K]) h1 (by rw [List.getElem?_map, List.getElem?_eq_getElem h1]; rfl)
      have Z := (hf.zones zs[K] (List.getElem_mem h1)).1
      rw [e] at Z
      obtain ⟨z1, z2⟩ := hz cs[K] (List.getElem_mem h2)
      exact ⟨g, zs[K].1, cs[K], e1, c, Z, z1, z2, meetK_next h2⟩
  have HALL : Hid (meetK n m cs d q = meetL n m cs d) := meetK_all (by omega)
  have HSTOP : Hid (∀ K, K ≤ q → (meetK n m cs d K).2 ≠ 0 → meetL n m cs d = meetK n m cs d K) := fun K hK h => meetK_stop rfl h
  have q4 : q ≤ 4096 := by rw [← hq]; exact hf.len
  rw [hq] at c1
  have HN := hideD hn
  have HM := hideD hm
  have HY := hideD hy
  have HZD := hideD hd
  have R0 := hideD (RG.start2 n m ((Below.refl w.heap.size w).drew) rfl)
  have M0 : Hid (meetK n m cs d 0 = ([], 0)) := rfl
  clear hf hcs hz hy hd hown ql hq hn hm
  generalize meetK n m cs d = M at *
  generalize meetL n m cs d = T at *
  go_enter Try.func18, Try.ntmps18
  go_wp2_with fail
  go_region_held3 (fun w' => Below w.heap.size w w' ∧ w'.cell? ⟨fb, 0, none⟩ = some (.int .i64 (n : Int)))
    (first | exact ⟨by first | assumption | exact Below.refl _ _ | exact Below.drew (Below.refl _ _) | exact Below.drew (by assumption), by first | assumption | simp [go_sem, *]⟩ | go_keep)
    (first | (go_at_call 43; refine (HD.out _ (by first | assumption | exact Below.refl _ _ | exact Below.drew (Below.refl _ _) | exact Below.drew (by assumption))).mono ?_; rintro e' w' ⟨rfl, rfl⟩))
  all_goals
    clear HD
    go_wp2_with fail
    go_loopw [7] (fun i wr => ∃ (K : Nat) (xs : List Row) (vv : Value), K ≤ q ∧ i = .int .i64 (K : Int) ∧ Hid (RG n m xs vv w wr ∧ xs.length ≤ K) ∧ Hid (M K = (xs, 0))) (fun i _ => q - (intOf i).toNat)
    case atStart => exact ⟨0, [], _, Nat.zero_le _, rfl, ⟨R0.out, Nat.zero_le _⟩, M0⟩
    case round =>
      obtain ⟨K, xs, vv, hK, rfl, HR, HK⟩ := hrel
      have c1 := kc _ _ HR.out.1.dr.below c1
      by_cases ck : K < q
      · obtain ⟨g, b, c, e1, e2, hzb, zc, c1', hnext⟩ := HEL.out K ck
        subst e1
        have NX := hideD hnext
        have ZCc := hideD zc
        have e2 := kc _ _ HR.out.1.dr.below e2
        have k1 : (K : Int) < (q : Int) := by omega
        have bw := HR.out.1.dr.below
        have HL := hideD (rcommon_zc (hzb.past bw) (HY.out.past bw) HN.out HM.out zc HZD.out)
        clear hnext hzb zc c1' bw
        go_wp2_with fail
        refine HL.out.mono ?_
        rintro e w6 ⟨⟨B', hz⟩, hb⟩
        have R6 := hideD (HR.out.1.past hb)
        have LX := hideD HR.out.2
        clear HR HL c1 e2 hb
        cases ho : zoneR n (drf n m (listOf (minR c d) m)) with
        | none =>
          have e10 : M (K + 1) = (xs, 10) := by
            rw [NX.out, HK.out]
            unfold comY
            rw [ho]
            rfl
          have eT := HSTOP.out (K + 1) (by omega) (by rw [e10]; simp)
          have HO : Hid (RMOut n m T (.returned (.tuple #[.pointer none, .int .i64 10])) w6) := .inl ⟨by rw [eT, e10]; simp, by rw [eT, e10]⟩
          have BE := hideD R6.out.dr.below
          rw [ho] at hz
          obtain rfl := hz
          clear ho e10 eT
          go_wp2_with fail
          refine bodyPost_ret (v := .tuple #[.pointer none, .int .i64 10]) (by simp [results, Try.results18, go_sem]) rfl ?_
          exact ⟨HO.out, BE.out⟩
        | some o =>
          have ZO : Hid (ZC n m o) := com_zc HN.out HM.out ZCc.out HZD.out ho
          have CY : Hid (comY n m c d = (some o, 0)) := by
            show _ = _
            unfold comY
            rw [ho]
          rw [ho] at hz
          obtain ⟨pb, rfl, hz⟩ := hz
          have RO := hideD hz.weak7
          clear hz ho
          go_wp2_with fail
          refine (rempty_zc RO.out HM.out ZO.out).mono ?_
          rintro e wf ⟨rfl, e4⟩
          obtain rfl := e4.symm
          clear e4
          by_cases o0 : o 0 < 1
          · have MK : Hid (M (K + 1) = (xs, 0)) := by
              show _ = _
              rw [NX.out, HK.out, CY.out]
              simp [layS, o0]
            have od : decide (o 0 < 1) = true := decide_eq_true o0
            clear o0 NX CY
            go_wp2_with fail
            go_roundw
            case rel => exact ⟨K + 1, xs, _, by omega, by go_num, ⟨R6.out, by have := LX.out; omega⟩, MK⟩
            case measure => simp [intOf]; omega
          · have MK : Hid (M (K + 1) = (xs ++ [o], 0)) := by
              show _ = _
              rw [NX.out, HK.out, CY.out]
              have := LX.out
              have ne : ¬ xs.length = 4096 := by omega
              simp [layS, o0, ne]
            have od : decide (o 0 < 1) = false := decide_eq_false o0
            obtain ⟨⟨rs, h1, h2, h3, h4⟩, h5, h6⟩ := R6.out.dr
            obtain ⟨ad', cap', rfl⟩ := own_slR h1
            have hlr := rs_len h3
            have b1 : rs.length ≤ 4096 := by have := LX.out; omega
            have bA := below_one w6 (.cells #[.pointer (some ⟨pb, 0, none⟩)] 34)
            have RA := R6.out.past bA
            have OW := hideD (own_past h1 bA)
            have O2 := hideD h2
            have sz := h6.size
            have y1 := R6.out.c1
            have DN : Hid (∀ (v' : Value) (W : World), W.ownsRow w.heap.size 34 1 v' (rs.length + 1) (rs.map pvR7 ++ [.pointer (some ⟨pb, 0, none⟩)]) → (w6.alloc (.cells #[.pointer (some ⟨pb, 0, none⟩)] 34)).grownBy W (Value.slice ad' rs.length cap').ownBlock → (rs.length + 1 = 0 → v' = .slice none 0 0) → (∃ u, W.cell? ⟨w.heap.size, 1, none⟩ = some u) ∧ W.frozen? ⟨w.heap.size, 1, none⟩ = false ∧ Hid (RG n m (xs ++ [o]) v' w (W.setCell ⟨w.heap.size, 1, none⟩ v'))) := fun v' W a b c => by
              obtain ⟨x1, x2, x3⟩ := RG.more (es := [(pb, listOf o m)]) (zlen7 HM.out) RA (own_past h1 bA) h2 h3 (fun e he => (h4 e he).past bA) (ds := [o]) rfl (fun e he => by rw [List.mem_singleton.1 he]; exact RO.out.past bA) (fun x hx => by rw [List.mem_singleton.1 hx]; exact ⟨ZO.out, o0⟩) a b c
              exact ⟨x1, x2, x3⟩
            clear h1 h2 h3 h4 h5 h6 o0 NX CY hlr bA RA R6
            go_wp2_with (at_builtin; refine wp_app8 _ rfl _ _ 27 rfl w.heap.size 34 i0 (.pointer none) 1 8 Try.underlying27 hi hz0 hz1 hz2 rfl (by decide) _ rs.length (rs.map pvR7) rfl OW.out O2.out (some ⟨w6.heap.size, 0, none⟩) 1 1 [.pointer (some ⟨pb, 0, none⟩)] rfl (fun h => by cases h) rfl (fun d hd j u hu => by injection hd with hd; subst hd; cases j with | zero => simp at hu; subst hu; simp [Addr.add, go_sem] | succ j => simp at hu) (fun u hu => by simp at hu; subst hu; rfl) (by unfold maxLen; omega) (by omega) (by simp; omega) ?_; intro v' wg hown hgr hnil; obtain ⟨⟨u1, g1⟩, g2, G3⟩ := DN.out v' wg hown hgr hnil; obtain ⟨ad5, cap5, rfl⟩ := own_slR hown; clear hown hgr hnil)
            go_roundw
            case rel => exact ⟨K + 1, xs ++ [o], _, by omega, by first | rfl | go_num, ⟨G3.out, by have := LX.out; rw [List.length_append]; simp; omega⟩, MK⟩
            case measure => simp [intOf]; omega
      · have ek : K = q := by omega
        have HO := hideD (HR.out.1.done HM.out (by have := HR.out.2; omega))
        have eT : (xs, (0 : Int)) = T := by rw [← HALL.out, ← ek]; exact HK.out.symm
        rw [eT] at HO
        have BE := hideD HR.out.1.dr.below
        have k1 : ¬ (K : Int) < (q : Int) := by omega
        clear HR HK
        go_wp2_with fail
        refine bodyPost_ret (v := .tuple #[.pointer (some ⟨w.heap.size, 0, none⟩), .int .i64 0]) (by simp [results, Try.results18, go_sem]) rfl ?_
        exact ⟨HO.out, BE.out⟩
end Go.Proofs.Ytnfkmpickmonoaa
