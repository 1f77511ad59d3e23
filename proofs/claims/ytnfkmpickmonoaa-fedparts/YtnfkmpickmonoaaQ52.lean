/-
  fed: the law's covered.
-/
import Derived.Test.YtnfkmpickmonoaaQ51
namespace Go.Proofs.Ytnfkmpickmonoaa
open Go.RowKit Go.Shelf
set_option linter.unusedVariables false
set_option maxRecDepth 100000
attribute [local go_sem] Oper.semAt_some
/-- New of a row of the document's zones that are not empty. -/
theorem rnew_row {H n m : Nat} {cs : List Row} {v : Value} {w W : World} (hn : n ≤ 8) (hm : m = (n + 1) * (n + 1)) (h : DR H n m cs v w W) (hl : cs.length ≤ 4000) :
    Calls Try.prog 10 #[.int .i64 (n : Int), v] W fun e w' => (∃ gb rs, e = .returned (.tuple #[.pointer (some ⟨gb, 0, none⟩), .int .i64 0]) ∧ Hid (RFedAt w' gb n m rs ∧ rs.map (·.2) = cs.map (fun c => listOf c m))) ∧ Below W.heap.size W w' := by
  obtain ⟨⟨rs, h1, h2, h3, h4⟩, h5, h6⟩ := h
  have mp := zlen7 hm
  have e0 : (cs.map fun c => ((0, c) : ZR)).map (·.2) = cs := by simp [List.map_map, Function.comp_def]
  obtain ⟨es, -, q2, q3, q4, q5⟩ := zip_rows (cs.map fun c => ((0, c) : ZR)) rs (by rw [h3, e0])
  have e4 : cellsE es = cs := q4.trans e0
  have zc : ∀ b r c, some (b, r, c) ∈ es → ZC n m c := fun b r c hm' => by
    obtain ⟨c', hc', e⟩ := List.mem_map.1 (q5 b r c hm')
    injection e with _ e
    rw [← e]
    exact (h5 c' hc').1
  have fin : ∀ e w', RNewOut n m (es.map (eR m)) e w' → ∃ gb rs, e = .returned (.tuple #[.pointer (some ⟨gb, 0, none⟩), .int .i64 0]) ∧ Hid (RFedAt w' gb n m rs ∧ rs.map (·.2) = cs.map (fun c => listOf c m)) := fun e w' ⟨fb, zs, h1, h2, h3⟩ => by
    refine ⟨fb, zs, h1, h2, ?_⟩
    rw [rnew_cells hm q3 zc h3, e4]
    congr 1
    rw [List.filter_eq_self]
    intro c hc
    exact decide_eq_true (h5 c hc).2
  have ll : (es.map (eR m)).length = rs.length := by rw [q2, List.length_map]
  have rl := rs_len h3
  by_cases q0 : rs.length = 0
  · rw [h2 q0]
    have e0 : es.map (eR m) = [] := List.eq_nil_of_length_eq_zero (by rw [ll, q0])
    rw [e0] at fin
    exact (rnew_empty n m W hn).mono fun e w' ⟨a, b⟩ => ⟨fin e w' a, b⟩
  · have hown : W.ownsRow H 34 1 v rs.length ((es.map (eR m)).map rptr7) := by
      have e : (es.map (eR m)).map rptr7 = rs.map pvR7 := by rw [q2, List.map_map]; rfl
      rw [e]
      exact h1
    obtain ⟨g, cap, rfl, PR⟩ := rprow_own (n := n) (m := m) hown ll (by omega) (fun z hz => by
      rw [q2] at hz
      obtain ⟨z', hz', e⟩ := List.mem_map.1 hz
      injection e with e
      subst e
      have : z'.2 ∈ cs.map (fun c => listOf c m) := by rw [← h3]; exact List.mem_map.2 ⟨z', hz', rfl⟩
      obtain ⟨c, -, e2⟩ := List.mem_map.1 this
      exact ⟨h4 z' hz', by rw [← e2, listOf_len]⟩)
    exact (rnew_any g cap rs.length n m _ W hn mp ll (by omega) PR (by rw [hasN_R, q3])).mono fun e w' ⟨a, b⟩ => ⟨fin e w' a, b⟩
/-- Cells of the program's zone, and Of of them by the document. -/
theorem ref_of {w : World} {b n m : Nat} {c : Row} (hn : n ≤ 8) (hm : m = (n + 1) * (n + 1)) (hz : ZoneAt w b n c) (zc : ZC n m c) :
    Calls Try.prog 51 #[.pointer (some ⟨b, 0, none⟩)] w fun e w' => (∃ g cap, e = .returned (.slice (some ⟨g, 0, none⟩) m cap) ∧ ∀ W, Below w'.heap.size w' W → Calls Try.prog 8 #[.int .i64 (n : Int), .slice (some ⟨g, 0, none⟩) m cap] W fun e w'' => (∃ r, e = .returned (.tuple #[.pointer (some ⟨r, 0, none⟩), .int .i64 0]) ∧ RZone w'' 0 r n (listOf c m)) ∧ Below W.heap.size W w'') ∧ Below w.heap.size w w' := by
  refine (cells_any b n c w hz hn).mono ?_
  rintro e w' ⟨⟨v, rfl, g, cap, rfl, -, lt, row⟩, hb⟩
  rw [← hm] at row ⊢
  rw [listOf_len]
  refine ⟨⟨g, cap, rfl, fun W hW => ?_⟩, hb⟩
  have row2 : RowAt W g 0 (listOf c m) := fun j hj => kc _ _ hW (row j hj)
  refine (rof_con n m g 0 cap c W hn hm (zc_right hm zc) row2).mono ?_
  rintro e w'' ⟨⟨B, h⟩, hb⟩
  rw [zc_zone7 hn hm zc] at h
  obtain ⟨r, rfl, hr⟩ := h
  exact ⟨⟨r, rfl, hr.weak7⟩, hb⟩
theorem DR.add {n m pb : Nat} {c : Row} {cs : List Row} {v v' : Value} {w A W : World} {H : Nat} {rs : List RZR} (hm : 0 < m) (h : DR H n m cs v w A) (hH : H ≤ A.heap.size) (h1 : A.ownsRow H 34 1 v rs.length (rs.map pvR7)) (h2 : rs.length = 0 → v = .slice none 0 0) (h3 : rs.map (·.2) = cs.map (fun c => listOf c m)) (h4 : ∀ e ∈ rs, RZone A 0 e.1 n e.2) (hz : RZone A 0 pb n (listOf c m)) (zc : ZC n m c) (c0 : ¬ c 0 < 1)
    (hown : W.ownsRow H 34 1 v' (rs.length + 1) (rs.map pvR7 ++ [.pointer (some ⟨pb, 0, none⟩)])) (hgr : (A.alloc (.cells #[.pointer (some ⟨pb, 0, none⟩)] 34)).grownBy W v.ownBlock) : DR H n m (cs ++ [c]) v' w W :=
  (DR.more hm h1 h2 h3 h4 h.ok h.below hH hz zc c0 (below_one A _) hown hgr).1
set_option maxHeartbeats 4000000 in
theorem covered_any (pb xb n m : Nat) (zs : List ZR) (c : Row) (w : World) (hn : n ≤ 8) (hm : m = (n + 1) * (n + 1)) (hp : FedAt w pb n m zs) (hl : zs.length ≤ 4000) (hx : ZoneAt w xb n c) (zc : ZC n m c) :
    Calls Try.prog 27 #[.int .i64 (n : Int), .pointer (some ⟨pb, 0, none⟩), .pointer (some ⟨xb, 0, none⟩)] w fun e w' => e = .returned (.bool (fincB n m (zs.map (·.2)) (some (xb, c)))) ∧ Below w.heap.size w w' := by
  obtain ⟨i0, hi, hz0, hz1, hz2⟩ := info_parts info_rzp
  have mp := zlen7 hm
  have HZ := hideD (fzones_any pb n m zs w hp)
  have HP := hideD hp
  have HX := hideD hx
  have HZC := hideD zc
  have HN := hideD hn
  have HM := hideD hm
  have HMP := hideD mp
  obtain ⟨q, hq⟩ : ∃ q, zs.length = q := ⟨_, rfl⟩
  have HQ := hideD hq
  rw [hq] at hl HZ
  obtain ⟨R, hR⟩ : ∃ R, fincB n m (zs.map (·.2)) (some (xb, c)) = R := ⟨_, rfl⟩
  have HRR := hideD hR
  rw [hR]
  have HL := hideD hl
  clear hp hx zc hm hn mp hq hR
  go_enter Try.func27, Try.ntmps27
  go_wp2_with fail
  refine HZ.out.mono ?_
  rintro e w1 ⟨⟨v, rfl, hown⟩, hb⟩
  obtain ⟨ad, cap, rfl⟩ := own_sl hown
  have B1 := hideD hb
  have HEL : Hid (∀ K, K < q → ∃ (g b : Nat) (d : Row), ad = some ⟨g, 0, none⟩ ∧ w1.cell? ⟨g, K, none⟩ = some (.pointer (some ⟨b, 0, none⟩)) ∧ ZoneAt w1 b n d ∧ ZC n m d ∧ ¬ d 0 < 1 ∧ ((zs.map (·.2)).take (K + 1) = (zs.map (·.2)).take K ++ [d])) := fun K hK => by
    have h1 : K < zs.length := by rw [HQ.out]; exact hK
    rcases own_at hown with ⟨-, e2⟩ | ⟨g, cap', e1, -, -, hc⟩
    · omega
    · injection e1 with e1
      have c := hc K (pvF zs[K]) hK (by rw [List.getElem?_map, List.getElem?_eq_getElem h1]; rfl)
      obtain ⟨z1, z2, z3⟩ := HP.out.zones zs[K] (List.getElem_mem h1)
      refine ⟨g, zs[K].1, zs[K].2, e1, c, z1.past hb, z2, z3, ?_⟩
      rw [List.take_add_one, List.getElem?_map, List.getElem?_eq_getElem h1]
      rfl
  have D0 : Hid (DR w1.heap.size n m ((zs.map (·.2)).take 0) (.slice none 0 0) w1 w1) := ⟨⟨[], World.ownsRow_nil _ _ _ _, fun _ => rfl, rfl, fun e he => (by cases he)⟩, fun c hc => (by cases hc), Below.refl _ _⟩
  have TAKE : Hid ((zs.map (·.2)).take q = zs.map (·.2)) := List.take_of_length_le (by rw [List.length_map, HQ.out]; exact Nat.le_refl _)
  have LT : Hid (∀ K, K ≤ q → ((zs.map (·.2)).take K).length = K) := fun K hK => by rw [List.length_take, List.length_map, HQ.out]; omega
  have HFB : Hid (∀ (gb rb : Nat) (rs : List RZR) (W : World), RFedAt W gb n m rs → rs.map (·.2) = (zs.map (·.2)).map (fun c => listOf c m) → RZone W 0 rb n (listOf c m) → Calls Try.prog 67 #[.pointer (some ⟨gb, 0, none⟩), .pointer (some ⟨rb, 0, none⟩)] W fun e w' => e = .returned (.bool R) ∧ Below W.heap.size W w') := fun gb rb rs W a b d => by
    rw [← HRR.out]
    exact rincl_any gb rb n m rs (zs.map (·.2)) c xb W HN.out HM.out a b (fed_zcs HP.out) d HZC.out
  clear HRR
  generalize zs.map (·.2) = cs at *
  clear hb hown HZ
  go_wp2_with fail
  go_loopw [7, 9] (fun l i wr => ∃ (K : Nat) (vv : Value), K ≤ q ∧ l = vv ∧ i = .int .i64 (K : Int) ∧ Hid (DR w1.heap.size n m (cs.take K) vv w1 wr)) (fun _ i _ => q - (intOf i).toNat)
  case atStart => exact ⟨0, _, Nat.zero_le _, rfl, rfl, D0⟩
  case round =>
    obtain ⟨K, vv, hK, rfl, rfl, HR⟩ := hrel
    by_cases ck : K < q
    · obtain ⟨g, b, d, e1, e2, hzb, zd, d0, htk⟩ := HEL.out K ck
      subst e1
      have e2 := kc _ _ HR.out.below e2
      have k1 : (K : Int) < (q : Int) := by omega
      have HC := hideD (ref_of HN.out HM.out (hzb.past HR.out.below) zd)
      have HTK := hideD htk
      have ZD := hideD zd
      have HD0 := hideD d0
      clear hzb zd d0 htk
      go_wp2_with fail
      refine HC.out.mono ?_
      rintro e wa ⟨⟨g1, cap1, rfl, hof⟩, hba⟩
      have HO := hideD (hof wa (Below.refl _ _))
      have R1 := hideD (HR.out.past hba HR.out.below.size)
      clear hof hba HC HR
      go_wp2_with fail
      refine HO.out.mono ?_
      rintro e wb ⟨⟨pb', rfl, hr⟩, hbb⟩
      have R2 := hideD (R1.out.past hbb R1.out.below.size)
      have RO := hideD hr
      clear hr hbb HO R1
      obtain ⟨⟨rs, h1, h2, h3, h4⟩, h5, h6⟩ := R2.out
      obtain ⟨ad', cap', rfl⟩ := own_slR h1
      have hlr := rs_len h3
      have b1 : rs.length ≤ 4000 := by have := LT.out K hK; have := HL.out; omega
      have OW := hideD (own_past h1 (below_one wb (.cells #[.pointer (some ⟨pb', 0, none⟩)] 34)))
      have sz := h6.size
      have DN : Hid (∀ (v' : Value) (W : World), W.ownsRow w1.heap.size 34 1 v' (rs.length + 1) (rs.map pvR7 ++ [.pointer (some ⟨pb', 0, none⟩)]) → (wb.alloc (.cells #[.pointer (some ⟨pb', 0, none⟩)] 34)).grownBy W (Value.slice ad' rs.length cap').ownBlock → DR w1.heap.size n m (cs.take (K + 1)) v' w1 W) := fun v' W a b => by
        rw [HTK.out]
        exact DR.add HMP.out R2.out h6.size h1 h2 h3 h4 RO.out ZD.out (by have := HD0.out; omega) a b
      clear h1 h2 h3 h4 h5 h6 hlr R2
      go_wp2_with (at_builtin; refine wpList_append_own _ rfl _ _ 27 rfl w1.heap.size 34 i0 (.pointer none) 1 8 Try.underlying27 hi hz0 hz1 hz2 rfl (by decide) _ rs.length (rs.map pvR7) rfl OW.out ⟨wb.heap.size, 0, none⟩ 1 1 [.pointer (some ⟨pb', 0, none⟩)] rfl rfl (fun j u hu => by cases j with | zero => simp at hu; subst hu; simp [Addr.add, go_sem] | succ j => simp at hu) (fun u hu => by simp at hu; subst hu; rfl) (by unfold maxLen; omega) (by omega) (by simp; omega) ?_; intro v' wg hown2 hgr hnil; have DG := hideD (DN.out v' wg hown2 hgr); clear hown2 hgr hnil)
      go_roundw
      case rel => exact ⟨K + 1, _, by omega, rfl, by first | rfl | go_num, DG⟩
      case measure => simp [intOf]; omega
    · have ek : K = q := by omega
      have hR2 := HR.out
      rw [ek, TAKE.out] at hR2
      have HR2 := hideD hR2
      clear hR2
      have HNW := hideD (rnew_row HN.out HM.out HR2.out (by have := LT.out q (Nat.le_refl _); rw [TAKE.out] at this; rw [this]; exact HL.out))
      have k1 : ¬ (K : Int) < (q : Int) := by omega
      have BR := hideD (beyondD B1.out HR2.out.below)
      clear HR HR2 ek
      go_wp2_with fail
      refine HNW.out.mono ?_
      rintro e wa ⟨⟨gb, rs, rfl, hg⟩, hba⟩
      have HG := hideD hg.out
      have BA := hideD (beyondD BR.out hba)
      have HC := hideD (ref_of HN.out HM.out (HX.out.past BA.out) HZC.out)
      clear hg hba HNW BR
      go_wp2_with fail
      refine HC.out.mono ?_
      rintro e wb ⟨⟨g1, cap1, rfl, hof⟩, hbb⟩
      have HO := hideD (hof wb (Below.refl _ _))
      have BB := hideD (beyondD BA.out hbb)
      have HGB := hideD (And.intro (HG.out.1.past hbb) HG.out.2)
      clear hof hbb HC BA HG
      go_wp2_with fail
      refine HO.out.mono ?_
      rintro e wc ⟨⟨rb, rfl, hr⟩, hbc⟩
      have BC := hideD (beyondD BB.out hbc)
      have HI := hideD (HFB.out gb rb rs wc (HGB.out.1.past hbc) HGB.out.2 hr)
      clear hr hbc HO BB HGB
      go_wp2_with fail
      refine HI.out.mono ?_
      rintro e wd ⟨rfl, hbd⟩
      have BD := hideD (beyondD BC.out hbd)
      clear hbd HI BC
      go_wp2_with fail
      go_ret
      exact ⟨rfl, BD.out⟩
end Go.Proofs.Ytnfkmpickmonoaa
