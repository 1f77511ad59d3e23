/-
  fed: Includes by the document.
-/
import Derived.Deep.RegionHeld3
import Derived.Test.YtnfkmpickmonoaaGreatQ32
import Derived.Test.YtnfkmpickmonoaaGreatQ31
namespace Go.Proofs.YtnfkmpickmonoaaGreat
open Go.RowKit Go.Shelf
set_option linter.unusedVariables false
set_option maxRecDepth 100000
attribute [local go_sem] Oper.semAt_some
theorem left_zcs {n m : Nat} {c d : Row} (hn : n ≤ 8) (hm : m = (n + 1) * (n + 1)) (zc : ZC n m c) (zd : ZC n m d) : ∀ y ∈ leftY n m c d, ∀ r, y.1 = some r → ZC n m r := fun y hy r hr => by
  unfold leftY at hy
  split at hy
  · exact ((PI.all (c := c) (d := d) hn hm zc zd m (Nat.le_refl _)).le y hy r hr).1
  · rw [List.mem_singleton.1 hy] at hr
    injection hr with hr
    rw [← hr]
    exact zc
theorem minus_zcs {n m : Nat} {d : Row} (hn : n ≤ 8) (hm : m = (n + 1) * (n + 1)) (zd : ZC n m d) {cs : List Row} (hz : ZCs n m cs) : ZCs n m (minusL n m cs d).1 := by
  have key : ∀ (cs : List Row) (s : List Row × Int), ZCs n m cs → ZCs n m s.1 → ZCs n m (cs.foldl (fun s c => layL s (leftY n m c d)) s).1 := by
    intro cs
    induction cs with
    | nil => intro s _ h; exact h
    | cons c cs ih =>
      intro s hc hs
      rw [List.foldl_cons]
      refine ih _ (fun r hr => hc r (List.mem_cons_of_mem _ hr)) ?_
      obtain ⟨s, e⟩ := s
      by_cases h0 : e = 0
      · subst h0
        obtain ⟨t, h1, h2, h3⟩ := lay_sub (leftY n m c d) s
        rw [h1]
        intro r hr
        rcases List.mem_append.1 hr with q | q
        · exact hs r q
        · obtain ⟨y, hy, e⟩ := List.mem_filterMap.1 (h2.subset q)
          exact ⟨left_zcs hn hm (hc c List.mem_cons_self).1 zd y hy r e, h3 r q⟩
      · rw [layL_stuck h0]
        exact hs
  exact key cs ([], 0) hz (fun r hr => by cases hr)
theorem finc_zcs {n m : Nat} {b : Nat} {d : Row} {cs : List Row} (hn : n ≤ 8) (hm : m = (n + 1) * (n + 1)) (zd : ZC n m d) (hz : ZCs n m cs) : ∀ K, K ≤ cs.length → ZCs n m (fincK n m cs (some (b, d)) K).1
  | 0, _ => fun r hr => by
    have e : fincK n m cs (some (b, d)) 0 = if d 0 < 1 then ([], 0) else ([d], 0) := by
      show layS ([], 0) (some d, 0) = _
      by_cases h : d 0 < 1 <;> simp [layS, h]
    rw [e] at hr
    split at hr
    · cases hr
    · rename_i h
      rw [List.mem_singleton.1 hr]
      exact ⟨zd, h⟩
  | K + 1, hK => by
    have ih := finc_zcs (b := b) hn hm zd hz K (by omega)
    rw [fincK_next (by omega)]
    unfold fincS
    split
    · exact minus_zcs hn hm (hz _ (List.getElem_mem (by omega))).1 ih
    · exact ih
theorem fincK_stuck {n m : Nat} {cs : List Row} {z : PZ7} {K : Nat} (hK : K ≤ cs.length) (h : (fincK n m cs z K).2 ≠ 0) : ∀ j, K + j ≤ cs.length → fincK n m cs z (K + j) = fincK n m cs z K
  | 0, _ => rfl
  | j + 1, hj => by
    have ih := fincK_stuck hK h j (by omega)
    rw [← Nat.add_assoc, fincK_next (by omega), ih]
    unfold fincS
    rw [if_neg h]
set_option maxHeartbeats 4000000 in
theorem rincl_any (fb zb n m : Nat) (zs : List RZR) (cs : List Row) (d : Row) (b0 : Nat) (w : World) (hn : n ≤ 8) (hm : m = (n + 1) * (n + 1)) (hf : RFedAt w fb n m zs) (hcs : zs.map (·.2) = cs.map (fun c => listOf c m)) (hz : ZCs n m cs) (hy : RZone w 0 zb n (listOf d m)) (hd : ZC n m d) :
    Calls Tryz.prog 15 #[.pointer (some ⟨fb, 0, none⟩), .pointer (some ⟨zb, 0, none⟩)] w fun e w' => e = .returned (.bool (fincB n m cs (some (b0, d)))) ∧ Below w.heap.size w w' := by
  obtain ⟨v, c1, hown⟩ := hf.c1
  have c0 := hf.c0
  have mp := zlen7 hm
  have HD : Hid (∀ W, Below w.heap.size w W → Calls Tryz.prog 32 #[.pointer (some ⟨zb, 0, none⟩)] W fun e w' => e = .returned (.int .i64 n) ∧ w' = W) := fun W hb => rdim_any (hy.past hb)
  obtain ⟨ad, cap, rfl⟩ := own_slR hown
  have ql := rs_len hcs
  obtain ⟨q, hq⟩ : ∃ q, zs.length = q := ⟨_, rfl⟩
  have QL : Hid (cs.length = q) := by show _ = _; omega
  have HW : Hid (∀ W, Below w.heap.size w W → Calls Tryz.prog 8 #[.int .i64 (n : Int), .slice (some ⟨W.heap.size, 0, none⟩) 1 1] (W.alloc (.cells #[.pointer (some ⟨zb, 0, none⟩)] 44)) fun e w' => (∃ lb rs, e = .returned (.tuple #[.pointer (some ⟨lb, 0, none⟩), .int .i64 0]) ∧ Hid (RFedAt w' lb n m rs ∧ rs.map (·.2) = (fincK n m cs (some (b0, d)) 0).1.map (fun c => listOf c m))) ∧ Hid (Below W.heap.size W w')) := fun W hW => by
    have hb1 := below_one W (.cells #[.pointer (some ⟨zb, 0, none⟩)] 44)
    have l1 : ([some (b0, zb, d)] : List E3).length = 1 := rfl
    refine (rnew_any W.heap.size 1 1 n m (([some (b0, zb, d)] : List E3).map (eR m)) _ hn mp rfl (by omega) ⟨fun k hk => ?_, fun z hz' => ?_⟩ rfl).mono ?_
    · obtain rfl : k = 0 := by simp at hk; omega
      exact ⟨W.heap.size, rfl, by simp [go_sem, eR]⟩
    · have e : z = (zb, listOf d m) := by simpa [eR] using hz'
      subst e
      exact ⟨(hy.past hW).past hb1, listOf_len _ _⟩
    · rintro e w' ⟨⟨lb, rs, rfl, a, b⟩, hb⟩
      refine ⟨⟨lb, rs, rfl, a, ?_⟩, hb1.trans (hb.mono (by simp))⟩
      rw [rnew_cells (es := [some (b0, zb, d)]) hm rfl (fun b r c h => by
        have : some (b, r, c) = some (b0, zb, d) := by simpa using h
        injection this with this
        injection this with _ this
        injection this with _ this
        rw [this]
        exact hd) b]
      have e : newL ([some (b0, d)] : List PZ7) = _ := newL_cells (es := [some (b0, zb, d)]) rfl (by simp)
      show _ = (newL ([some (b0, d)] : List PZ7)).1.map _
      rw [e]
  have HEL : Hid (∀ K, K < q → ∃ (g b : Nat) (c : Row), ad = some ⟨g, 0, none⟩ ∧ w.cell? ⟨g, K, none⟩ = some (.pointer (some ⟨b, 0, none⟩)) ∧ RZone w 0 b n (listOf c m) ∧ ZC n m c ∧ ((fincK n m cs (some (b0, d)) K).2 = 0 → fincK n m cs (some (b0, d)) (K + 1) = minusL n m (fincK n m cs (some (b0, d)) K).1 c)) := fun K hK => by
    have h1 : K < zs.length := by omega
    have h2 : K < cs.length := by omega
    rcases own_at hown with ⟨-, e2⟩ | ⟨g, cap', e1, -, -, hc⟩
    · omega
    · injection e1 with e1
      have e : zs[K].2 = listOf cs[K] m := by
        have := congrArg (fun l => l[K]?) hcs
        simp only [List.getElem?_map, List.getElem?_eq_getElem h1, List.getElem?_eq_getElem h2, Option.map_some] at this
        injection this
      have c := hc K (pvR7 zs[K]) h1 (by rw [List.getElem?_map, List.getElem?_eq_getElem h1]; rfl)
      have Z := (hf.zones zs[K] (List.getElem_mem h1)).1
      rw [e] at Z
      refine ⟨g, zs[K].1, cs[K], e1, c, Z, (hz cs[K] (List.getElem_mem h2)).1, fun h0 => ?_⟩
      rw [fincK_next h2]
      unfold fincS
      rw [if_pos h0]
  have HZF : Hid (∀ K, K ≤ q → ZCs n m (fincK n m cs (some (b0, d)) K).1) := fun K hK => finc_zcs hn hm hd hz K (by omega)
  have HSTOP : Hid (∀ K, K ≤ q → (fincK n m cs (some (b0, d)) K).2 ≠ 0 → fincB n m cs (some (b0, d)) = false) := fun K hK h => by
    have e := fincK_stuck (by omega) h (cs.length - K) (by omega)
    rw [show K + (cs.length - K) = cs.length by omega] at e
    unfold fincB
    rw [e, decide_eq_false h, Bool.false_and]
  have HEND : Hid (∀ k, (fincK n m cs (some (b0, d)) q).2 = 0 → (fincK n m cs (some (b0, d)) q).1.length = k → fincB n m cs (some (b0, d)) = decide (k = 0)) := fun k h1 h2 => by
    have eq : q = cs.length := by omega
    rw [eq] at h1 h2
    unfold fincB
    rw [h1, h2]
    simp
  have F0 : Hid ((fincK n m cs (some (b0, d)) 0).2 = 0) := by
    show (layS ([], 0) (some d, 0)).2 = 0
    by_cases h : d 0 < 1 <;> simp [layS, h]
  have q4 : q ≤ 4096 := by rw [← hq]; exact hf.len
  rw [hq] at c1
  have HN := hideD hn
  have HM := hideD hm
  clear hf hcs hz hy hown ql hq hn hm hd mp QL
  generalize fincK n m cs (some (b0, d)) = F at *
  generalize fincB n m cs (some (b0, d)) = R at *
  go_enter Tryz.func15, Tryz.ntmps15
  go_wp2_with fail
  go_region_held3 (fun w' => Below w.heap.size w w' ∧ w'.cell? ⟨fb, 0, none⟩ = some (.int .i64 (n : Int)))
    (first | exact ⟨by first | assumption | exact Below.refl _ _ | exact Below.drew (Below.refl _ _) | exact Below.drew (by assumption), by first | assumption | simp [go_sem, *]⟩ | go_keep)
    (first | (go_at_call 32; refine (HD.out _ (by first | assumption | exact Below.refl _ _ | exact Below.drew (Below.refl _ _) | exact Below.drew (by assumption))).mono ?_; rintro e' w' ⟨rfl, rfl⟩))
  all_goals
    clear HD
    have c0d : w.drew.cell? ⟨fb, 0, none⟩ = some (.int .i64 (n : Int)) := c0
    have bd : Below w.heap.size w w.drew := (Below.refl w.heap.size w).drew
    have HW2 := hideD (HW.out w.drew bd)
    have BD := hideD bd
    clear bd HW
    go_wp2_with fail
    refine HW2.out.mono ?_
    rintro e w1 ⟨⟨lb, rs, rfl, HR⟩, hb⟩
    have B1 := hideD (BD.out.trans hb.out)
    clear HW2 hb
    go_wp2_with fail
    go_loopw [5, 7] (fun p i wr => ∃ (K lb : Nat) (rs : List RZR), K ≤ q ∧ p = .pointer (some ⟨lb, 0, none⟩) ∧ i = .int .i64 (K : Int) ∧ Hid (RFedAt wr lb n m rs ∧ rs.map (·.2) = (F K).1.map (fun c => listOf c m) ∧ (F K).2 = 0) ∧ Hid (Below w.heap.size w wr)) (fun _ i _ => q - (intOf i).toNat)
    case atStart => exact ⟨0, lb, rs, Nat.zero_le _, rfl, rfl, ⟨HR.out.1, HR.out.2, F0.out⟩, B1⟩
    case round =>
      clear HR B1
      obtain ⟨K, lb, rs, hK, rfl, rfl, HR, HB⟩ := hrel
      have d1 := kc _ _ HB.out c1
      by_cases ck : K < q
      · obtain ⟨g, b, c, e1, e2, hzb, zc, hnext⟩ := HEL.out K ck
        subst e1
        have e2 := kc _ _ HB.out e2
        have k1 : (K : Int) < (q : Int) := by omega
        have HMi : Hid (Calls Tryz.prog 48 #[.pointer (some ⟨lb, 0, none⟩), .pointer (some ⟨b, 0, none⟩)] wr fun e w' => RMOut n m (F (K + 1)) e w' ∧ Below wr.heap.size wr w') := by
          have h := rminus_any lb b n m rs (F K).1 c wr HN.out HM.out HR.out.1 HR.out.2.1 (HZF.out K hK) (hzb.past HB.out) zc
          rw [← hnext HR.out.2.2] at h
          exact h
        clear hnext hzb zc HR
        go_wp2_with fail
        refine HMi.out.mono ?_
        rintro e w6 ⟨h | h, hb⟩
        · obtain ⟨h1, rfl⟩ := h
          have eR := HSTOP.out (K + 1) (by omega) h1
          have p2 : ((F (K + 1)).2 == 0) = false := by simpa using h1
          have BE := hideD (beyondD HB.out hb)
          generalize (F (K + 1)).2 = ee at *
          clear HMi hb h1
          go_wp2_with fail
          go_ret
          exact ⟨by subst eR; rfl, BE.out⟩
        · obtain ⟨h1, lb2, rs2, rfl, h2, h3⟩ := h
          have HR2 : Hid (RFedAt w6 lb2 n m rs2 ∧ rs2.map (·.2) = (F (K + 1)).1.map (fun c => listOf c m) ∧ (F (K + 1)).2 = 0) := ⟨h2, h3, h1⟩
          have HB2 := hideD (beyondD HB.out hb)
          clear HMi hb h1 h2 h3
          go_wp2_with fail
          go_roundw
          case rel => exact ⟨K + 1, lb2, rs2, by omega, rfl, by go_num, HR2, HB2⟩
          case measure => simp [intOf]; omega
      · have ek : K = q := by omega
        have k1 : ¬ (K : Int) < (q : Int) := by omega
        have eR := HEND.out rs.length (by rw [← ek]; exact HR.out.2.2) (by rw [← ek]; exact (rs_len HR.out.2.1).symm)
        have HE := hideD (rfempty_any lb n m rs wr HR.out.1)
        obtain ⟨t, ht⟩ : ∃ t, decide (rs.length = 0) = t := ⟨_, rfl⟩
        rw [ht] at HE eR
        subst eR
        clear HR ek ht
        go_wp2_with fail
        refine HE.out.mono ?_
        rintro e w7 ⟨rfl, e7⟩
        obtain rfl := e7.symm
        clear e7
        go_wp2_with fail
        go_ret
        exact ⟨rfl, HB.out⟩
end Go.Proofs.YtnfkmpickmonoaaGreat
