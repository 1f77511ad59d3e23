/-
  fed.Meet.
-/
import Derived.Test.YtnfkmpickmonoaaGreatQ26
namespace Go.Proofs.YtnfkmpickmonoaaGreat
open Go.RowKit Go.Shelf
set_option linter.unusedVariables false
set_option maxRecDepth 100000
attribute [local go_sem] Oper.semAt_some
/-- What two zones have in common, as what is laid. -/
def comY (n m : Nat) (c d : Row) : YS := match zoneR n (drf n m (listOf (minR c d) m)) with
  | none => (none, 10)
  | some x => (some x, 0)
def meetK (n m : Nat) (cs : List Row) (d : Row) (K : Nat) : List Row × Int := layL ([], 0) ((cs.take K).map fun c => comY n m c d)
def meetL (n m : Nat) (cs : List Row) (d : Row) : List Row × Int := layL ([], 0) (cs.map fun c => comY n m c d)
theorem meetK_next {n m K : Nat} {cs : List Row} {d : Row} (h : K < cs.length) : meetK n m cs d (K + 1) = layS (meetK n m cs d K) (comY n m cs[K] d) := by
  unfold meetK
  have e : cs.take (K + 1) = cs.take K ++ [cs[K]] := by
    rw [List.take_add_one, List.getElem?_eq_getElem h]
    rfl
  rw [e, List.map_append, List.map_singleton, layL_snoc]
theorem meetK_all {n m K : Nat} {cs : List Row} {d : Row} (h : cs.length = K) : meetK n m cs d K = meetL n m cs d := by
  subst h
  simp [meetK, meetL]
theorem meetK_stop {n m K : Nat} {cs : List Row} {d : Row} {t : List Row × Int} (h : meetK n m cs d K = t) (ht : t.2 ≠ 0) : meetL n m cs d = t :=
  layL_pre (ps := (cs.take K).map fun c => comY n m c d) (ys := cs.map fun c => comY n m c d) (by
    rw [List.map_take]
    exact List.take_prefix _ _) h ht
structure QI (H r n m : Nat) (s : List Row) (w W : World) (zs : List ZR) (v : Value) : Prop where
  row : RowF W H r n zs v
  told : zs.map (·.2) = s
  zones : ∀ e ∈ zs, ZoneAt W e.1 n e.2 ∧ ZC n m e.2 ∧ Safe r none W e.1 ∧ ¬ e.2 0 < 1
  below : Below H w W
  hr : H ≤ r
theorem QI.past {H r n m : Nat} {s : List Row} {w A B : World} {zs : List ZR} {v : Value} (h : QI H r n m s w A zs v) (hb : Below A.heap.size A B) (hA : H ≤ A.heap.size) : QI H r n m s w B zs v :=
  ⟨h.row.past hb, h.told, fun e he => ⟨(h.zones e he).1.past hb, (h.zones e he).2.1, (h.zones e he).2.2.1.past hb, (h.zones e he).2.2.2⟩, h.below.trans (hb.mono hA), h.hr⟩
theorem QI.more {H r n m b : Nat} {c : Row} {s : List Row} {w A B : World} {zs : List ZR} {v v2 : Value} (h : QI H r n m s w A zs v) (z1 : ZoneAt A b n c) (z2 : ZC n m c) (z3 : Safe r none A b) (h1 : ¬ c 0 < 1) (hR : RowF B H r n (zs ++ [(b, c)]) v2) (hG : Grew r v v2 A B) (hA : H ≤ A.heap.size) : QI H r n m (s ++ [c]) w B (zs ++ [(b, c)]) v2 := by
  have own : ∀ k, v.ownBlock = some k → H ≤ k := fun k e => by
    rcases h.row.own.2 with ⟨q, -⟩ | ⟨g, cap, cur, g1, g2, g3, g4⟩
    · rw [q] at e; cases e
    · rw [g1] at e
      injection e with e
      subst e
      exact g2
  obtain ⟨vl, hvl, lt⟩ := row_ownlt hR
  rw [hR.c1] at hvl
  cases hvl
  have hb : Below H A B := hG.below h.hr own hA
  have kO : KeepO H r none A B := KeepO.grew hG h.row.c1 hR.c1 lt hb
  refine ⟨hR, by simp [h.told], fun e he => ?_, h.below.trans hb, h.hr⟩
  rcases List.mem_append.1 he with q | q
  · obtain ⟨a1, a2, a3, a4⟩ := h.zones e q
    exact ⟨a1.safe kO a3, a2, a3.keep kO a1.lt, a4⟩
  · rw [List.mem_singleton.1 q]
    exact ⟨z1.safe kO z3, z2, z3.keep kO z1.lt, h1⟩
theorem QI.done {H r n m : Nat} {s : List Row} {w A : World} {zs : List ZR} {v : Value} (h : QI H r n m s w A zs v) (hl : zs.length ≤ 4096) : FedAt (A.alloc (.cells #[.int .i64 (n : Int), v] 67)) A.heap.size n m zs := by
  have s1 := SameC.below (below_one A (.cells #[.int .i64 (n : Int), v] 67))
  exact ⟨by simp [go_sem], ⟨v, by simp [go_sem], s1.owns ⟨h.row.own.1, h.row.own.2.imp id (fun ⟨g, cap, cur, h1, h2, h3⟩ => ⟨g, cap, cur, h1, Nat.zero_le _, h3⟩)⟩ (fun x e => by cases e)⟩, fun e he => ⟨s1.zone (h.zones e he).1 (by simp), (h.zones e he).2.1, (h.zones e he).2.2.2⟩, hl⟩
theorem fand_two (b z n m g : Nat) (c d : Row) (w : World) (hn : n ≤ 8) (hm : m = (n + 1) * (n + 1)) (hz : ZoneAt w b n c) (zc : ZC n m c) (hy : ZoneAt w z n d) (zd : ZC n m d) (hp : w.cell? ⟨g, 0, none⟩ = some (.pointer (some ⟨z, 0, none⟩))) :
    Calls Tryz.prog 55 #[.pointer (some ⟨b, 0, none⟩), .slice (some ⟨g, 0, none⟩) 1 1] w fun e w' => ZoneOut w' w.heap.size n e (zoneR n (drf n m (listOf (minR c d) m))) ∧ Below w.heap.size w w' := by
  refine (and_main b n g 0 1 1 c (fun _ => z) (fun _ => d) w hn hz (zc_32 hm zc) (by omega) (fun k hk => by
    obtain rfl : k = 0 := by omega
    exact hp) (fun k _ => hy) (fun k => zc_32 hm zd)).mono fun e w' ⟨h, hb⟩ => ⟨?_, hb⟩
  rw [← hm] at h
  exact ops_of hm h (and_one hm) (fun j => right_min (c := c) (d := d) (k := j) (zc_right hm zc j) (zc_right hm zd j))
theorem com_zc {n m : Nat} {c d x : Row} (hn : n ≤ 8) (hm : m = (n + 1) * (n + 1)) (zc : ZC n m c) (zd : ZC n m d) (h : zoneR n (drf n m (listOf (minR c d) m)) = some x) : ZC n m x :=
  zc_drf hn hm (fun j hj => by
    have := right_min (c := c) (d := d) (k := j) (zc_right hm zc j) (zc_right hm zd j)
    rw [listOf_get _ _ _ hj]
    unfold rightB at this
    have := of_decide_eq_true this
    omega) h
set_option maxHeartbeats 4000000 in
theorem fmeet_any (fb zb n m : Nat) (zs : List ZR) (d : Row) (w : World) (hn : n ≤ 8) (hm : m = (n + 1) * (n + 1)) (hf : FedAt w fb n m zs) (hz : ZoneAt w zb n d) (zd : ZC n m d) :
    Calls Tryz.prog 22 #[.pointer (some ⟨fb, 0, none⟩), .pointer (some ⟨zb, 0, none⟩)] w fun e w' => MinusOut w.heap.size n m (meetL n m (zs.map (·.2)) d) e w' ∧ Below w.heap.size w w' := by
  obtain ⟨v, c1, hown⟩ := hf.c1
  obtain ⟨q, hq⟩ : ∃ q, zs.length = q := ⟨_, rfl⟩
  obtain ⟨ad, cap, rfl⟩ := own_sl hown
  rw [hq] at c1
  have HF := hideD (fits_any fb zb n n d w hf.c0 hz)
  rw [show fitE n n = 0 by simp [fitE]] at HF
  have c0 := hf.c0
  have FD := hideD hf
  have HQ := hideD hq
  have HO := hideD hown
  have HN := hideD hn
  have HM := hideD hm
  have HZ := hideD hz
  have HZD := hideD zd
  have q4 : q ≤ 4096 := by rw [← hq]; exact hf.len
  clear hf hz hq hown hn hm zd
  go_enter Tryz.func22, Tryz.ntmps22
  go_wp2_with fail
  refine HF.out.mono ?_
  rintro e W2 ⟨rfl, hb⟩
  have c0 := kc _ _ hb c0
  have B2 := hideD hb
  have d2 := kc _ _ (below_one W2 (.cells #[.int .i64 (n : Int), .slice none 0 0] 65)) (kc _ _ hb c1)
  clear hb HF c1
  have I0 : Hid ((meetK n m (zs.map (·.2)) d 0).2 = 0 ∧ QI w.heap.size W2.heap.size n m (meetK n m (zs.map (·.2)) d 0).1 w (W2.alloc (.cells #[.int .i64 (n : Int), .slice none 0 0] 65)) [] (.slice none 0 0)) :=
    ⟨rfl, ⟨by simp [go_sem], by simp [go_sem], by simp [go_sem], World.ownsRow_nil _ _ _ _, by simp [Value.ownBlock]⟩, rfl, by simp, B2.out.trans ((below_one W2 _).mono B2.out.size), B2.out.size⟩
  go_wp2_with fail
  go_loopw [30] (fun i wr => ∃ (K : Nat) (rs : List ZR) (v : Value), K ≤ q ∧ i = .int .i64 (K : Int) ∧ rs.length ≤ K ∧ Hid ((meetK n m (zs.map (·.2)) d K).2 = 0 ∧ QI w.heap.size W2.heap.size n m (meetK n m (zs.map (·.2)) d K).1 w wr rs v)) (fun i _ => q - (intOf i).toNat)
  case atStart => exact ⟨0, [], _, Nat.zero_le _, rfl, Nat.le_refl _, I0⟩
  case round =>
    obtain ⟨K, rs, v, hK, rfl, hlr, HI⟩ := hrel
    have hwr := HI.out.2.below.size
    by_cases ck : K < q
    · have k0 : (K : Int) < (q : Int) := by omega
      have hlz : K < zs.length := by have := HQ.out; omega
      obtain ⟨g, cap', e1, hcell⟩ := owns_elem HO.out (by intro e; rw [e] at hlz; cases hlz)
      injection e1 with e1 e2 e3
      subst e1
      clear e3
      obtain ⟨zk, ez⟩ : ∃ zk, zs[K] = zk := ⟨_, rfl⟩
      obtain ⟨zk, ck7⟩ := zk
      have hel := kc _ _ HI.out.2.below (hcell K hlz)
      rw [ez] at hel
      simp only [pvF] at hel
      have HZK := hideD (FD.out.zones _ (List.getElem_mem hlz))
      rw [ez] at HZK
      have EN := meetK_next (n := n) (m := m) (cs := zs.map (·.2)) (d := d) (K := K) (by simpa using hlz)
      rw [List.getElem_map, ez] at EN
      simp only at EN
      obtain ⟨s, hs⟩ : ∃ s, (meetK n m (zs.map (·.2)) d K).1 = s := ⟨_, rfl⟩
      have EK : meetK n m (zs.map (·.2)) d K = (s, 0) := Prod.ext hs HI.out.1
      have N := HI.out.2
      rw [hs] at N
      rw [EK] at EN
      have hlen : s.length = rs.length := by rw [← N.told]; simp
      have bA := below_one wr (.cells #[.pointer (some ⟨zb, 0, none⟩)] 41)
      have HA := hideD (fand_two zk zb n m wr.heap.size ck7 d (wr.alloc (.cells #[.pointer (some ⟨zb, 0, none⟩)] 41)) HN.out HM.out ((HZK.out.1.past N.below).past bA) HZK.out.2.1 ((HZ.out.past N.below).past bA) HZD.out (by simp [go_sem]))
      have CZ : Hid (∀ x, zoneR n (drf n m (listOf (minR ck7 d) m)) = some x → ZC n m x) := fun x h => com_zc HN.out HM.out HZK.out.2.1 HZD.out h
      have EN' : meetK n m (zs.map (·.2)) d (K + 1) = layS (s, 0) (match zoneR n (drf n m (listOf (minR ck7 d) m)) with | none => (none, 10) | some x => (some x, 0)) := EN
      have N1 := hideD (N.past bA hwr)
      have ENH := hideD EN'
      have HLEN := hideD hlen
      clear hcell hlz ez HZK EN EN' hs EK N HI bA hlen
      generalize zoneR n (drf n m (listOf (minR ck7 d) m)) = o at *
      have sA : wr.heap.size + 1 = (wr.alloc (.cells #[.pointer (some ⟨zb, 0, none⟩)] 41)).heap.size := by simp
      cases o with
      | none =>
        have F : Hid (meetL n m (zs.map (·.2)) d = (s, 10)) := meetK_stop (K := K + 1) (ENH.out.trans (by simp [layS])) (by simp)
        clear ENH CZ
        go_wp2_with fail
        refine HA.out.mono ?_
        rintro e W7 ⟨h, hb⟩
        obtain rfl := h
        have B7 := hideD (N1.out.below.trans (hb.mono (by omega)))
        clear hb HA hel sA N1
        go_wp2_with fail
        refine bodyPost_ret (v := .tuple #[.pointer none, .int .i64 10]) (by simp [results, Tryz.results22, go_sem]) rfl ?_
        exact ⟨.inl ⟨by rw [F.out]; simp, by rw [F.out]⟩, B7.out⟩
      | some x =>
        have zx := CZ.out x rfl
        go_wp2_with fail
        refine HA.out.mono ?_
        rintro e W7 ⟨h, hb⟩
        obtain ⟨bo, g0, rfl, hzo⟩ := h
        have N7 := N1.out.past hb (by omega)
        have sfe := Safe.fresh (X := none) (row_ownlt N1.out.row) hb (fun x e => by cases e) g0
        have hw7 : w.heap.size ≤ W7.heap.size := N7.below.size
        have HA2 := hideD (fadd_any w.heap.size W2.heap.size n bo x rs v W7 HN.out hzo N7.row (by omega) hw7)
        have FS : Hid (∀ W8, x 0 < 1 → Below W7.heap.size W7 W8 → (meetK n m (zs.map (·.2)) d (K + 1)).2 = 0 ∧ QI w.heap.size W2.heap.size n m (meetK n m (zs.map (·.2)) d (K + 1)).1 w W8 rs v) := fun W8 h1 hb8 => by
          have e : layS (s, 0) (some x, 0) = (s, 0) := by simp [layS, h1]
          rw [ENH.out]
          simp only [e]
          exact ⟨by first | exact rfl | trivial, N7.past hb8 hw7⟩
        have FM : Hid (∀ W8 v2, ¬ x 0 < 1 → RowF W8 w.heap.size W2.heap.size n (rs ++ [(bo, x)]) v2 → Grew W2.heap.size v v2 W7 W8 → (meetK n m (zs.map (·.2)) d (K + 1)).2 = 0 ∧ QI w.heap.size W2.heap.size n m (meetK n m (zs.map (·.2)) d (K + 1)).1 w W8 (rs ++ [(bo, x)]) v2) := fun W8 v2 h1 h2 h3 => by
          have hl : s.length ≠ 4096 := by have := HLEN.out; omega
          have e : layS (s, 0) (some x, 0) = (s ++ [x], 0) := by simp [layS, h1, hl]
          rw [ENH.out]
          simp only [e]
          exact ⟨by first | exact rfl | trivial, N7.more hzo zx sfe h1 h2 h3 hw7⟩
        clear hb HA hel sA N1 ENH CZ zx N7 sfe hzo g0
        go_wp2_with fail
        refine HA2.out.mono ?_
        rintro e W8 (⟨h1, rfl, hb⟩ | ⟨h1, h2, -, -⟩ | ⟨h1, h2, rfl, v2, hR2, hG⟩)
        · have F := hideD (FS.out W8 h1 hb)
          clear FS FM h1 hb HA2
          go_wp2_with fail
          go_roundw
          case rel => exact ⟨K + 1, rs, v, by omega, by go_num, by omega, F⟩
          case measure => simp [intOf]; omega
        · omega
        · have F := hideD (FM.out W8 v2 (by omega) hR2 hG)
          clear FS FM h1 h2 hR2 hG HA2
          go_wp2_with fail
          go_roundw
          case rel => exact ⟨K + 1, _, v2, by omega, by go_num, by simp; omega, F⟩
          case measure => simp [intOf]; omega
    · have eK : (zs.map (·.2)).length = K := by rw [List.length_map, HQ.out]; omega
      have k0 : ¬ (K : Int) < (q : Int) := by omega
      obtain ⟨s, hs⟩ : ∃ s, (meetK n m (zs.map (·.2)) d K).1 = s := ⟨_, rfl⟩
      have EK : Hid (meetL n m (zs.map (·.2)) d = (s, 0)) := by
        show _ = _
        rw [← meetK_all eK]
        exact Prod.ext hs HI.out.1
      have N := HI.out.2
      rw [hs] at N
      have r0 := N.row.c0
      have r1 := N.row.c1
      have FE := hideD (N.done (by omega))
      have HT := hideD N.told
      have HB := hideD (N.below.trans ((below_one wr (.cells #[.int .i64 (n : Int), v] 67)).mono hwr))
      clear hs N HI eK
      go_wp2_with fail
      refine bodyPost_ret (v := .tuple #[.pointer (some ⟨wr.heap.size, 0, none⟩), .int .i64 0]) (by simp [results, Tryz.results22, go_sem]) rfl ?_
      exact ⟨.inr ⟨by rw [EK.out], _, rs, hwr, rfl, FE.out, by rw [EK.out]; exact HT.out⟩, HB.out⟩
end Go.Proofs.YtnfkmpickmonoaaGreat
