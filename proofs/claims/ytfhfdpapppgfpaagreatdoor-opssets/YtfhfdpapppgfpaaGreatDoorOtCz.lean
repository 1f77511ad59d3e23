/-
  The document's Keep of a zone with points.
-/
import Derived.Test.YtfhfdpapppgfpaaGreatDoorOtAz
import Derived.Test.YtfhfdpapppgfpaaGreatDoorOtBz
namespace Go.Proofs.YtfhfdpapppgfpaaGreatDoor
open Go.RowKit
set_option linter.unusedVariables false
set_option maxRecDepth 100000
/-- What lies in memory while Keep goes on: in block d so many cells, their row own. -/
def KpSt (w0 w2 : World) (d q : Nat) (f : Row) (K : Nat) (v : Value) (W : World) : Prop :=
  W.ownsRow w2.heap.size 2 1 v K ((listOf f K).map (Value.int .i64)) ∧ W.cell? ⟨d, 0, none⟩ = some (.int .i64 (q : Int)) ∧ W.cell? ⟨d, 1, none⟩ = some v ∧ W.frozen? ⟨d, 1, none⟩ = false ∧ OnlyB d w2 W ∧ d < w2.heap.size ∧ Below d w0 W
theorem listOf_next (f : Row) (K : Nat) : listOf f (K + 1) = listOf f K ++ [f K] := by
  unfold listOf
  rw [List.range_succ, List.map_append]
  rfl
theorem KpSt.app {w0 w2 : World} {d q K : Nat} {f : Row} {v v' : Value} {W W0 w1 : World} {o : Obj} (h : KpSt w0 w2 d q f K v W) (hW : W0.heap = W.heap) (h8 : Below d w0 W0)
    (hown : w1.ownsRow w2.heap.size 2 1 v' (K + 1) ((listOf f K).map (Value.int .i64) ++ [.int .i64 (f K)])) (hg : (W0.alloc o).grownBy w1 v.ownBlock) : KpSt w0 w2 d q f (K + 1) v' (w1.setCell ⟨d, 1, none⟩ v') := by
  obtain ⟨h1, h2, h3, h4, h5, h6, h7⟩ := h
  have own : ∀ k, v.ownBlock = some k → w2.heap.size ≤ k := fun k hk => (h1.lt k hk).1
  have blk : ∀ k, k < w2.heap.size → w1.heap[k]? = W.heap[k]? := fun k hk => by
    have hs : k < W.heap.size := Nat.lt_of_lt_of_le hk h5.1
    rw [hg.block k (by simp [hW]; omega) (fun e => by have := own k e.symm; omega)]
    rw [Lib.alloc_old W0 _ k (by rw [hW]; exact hs), hW]
  have bd := blk d h6
  have e0 : w1.cell? ⟨d, 0, none⟩ = W.cell? ⟨d, 0, none⟩ := World.cell?_of_block (w := W) bd
  have e1 : w1.cell? ⟨d, 1, none⟩ = W.cell? ⟨d, 1, none⟩ := World.cell?_of_block (w := W) bd
  have e2 : w1.frozen? ⟨d, 1, none⟩ = W.frozen? ⟨d, 1, none⟩ := World.frozen?_of_block (w := W) bd
  refine ⟨?_, ?_, ?_, ?_, ?_, h6, ?_⟩
  · rw [listOf_next, List.map_append]
    exact ownsRow_setCell_below hown (by exact h6) _
  · rw [World.cell?_setCell_other _ _ _ _ (by intro e; injection e; omega), e0]; exact h2
  · rw [World.cell?_setCell_same _ _ _ (e1.trans h3)]
  · rw [World.frozen?_setCell, e2]; exact h4
  · refine OnlyB.set ⟨?_, fun k hk hd => (blk k hk).trans (h5.2 k hk hd)⟩ rfl _
    have := hg.size
    simp [hW] at this
    have := h5.1
    omega
  · have sz : d ≤ W0.heap.size := by rw [hW]; have := h5.1; omega
    exact ((h8.alloc sz _).grown hg (by simp; omega) (fun k hk => by have := own k hk; omega)).setCell (Nat.le_refl _) _
theorem KpSt.mid {w0 w2 : World} {d q K : Nat} {f : Row} {v : Value} {W W0 w1 : World} {o : Obj} (h : KpSt w0 w2 d q f K v W) (hW : W0.heap = W.heap) (hg : (W0.alloc o).grownBy w1 v.ownBlock) : w1.cell? ⟨d, 1, none⟩ = some v ∧ w1.frozen? ⟨d, 1, none⟩ = false := by
  obtain ⟨h1, h2, h3, h4, h5, h6, h7⟩ := h
  have own : ∀ k, v.ownBlock = some k → w2.heap.size ≤ k := fun k hk => (h1.lt k hk).1
  have bd : w1.heap[d]? = W.heap[d]? := by
    have hs : d < W.heap.size := Nat.lt_of_lt_of_le h6 h5.1
    rw [hg.block d (by simp [hW]; omega) (fun e => by have := own d e.symm; omega)]
    rw [Lib.alloc_old W0 _ d (by rw [hW]; exact hs), hW]
  exact ⟨(World.cell?_of_block (w := W) (a := ⟨d, 1, none⟩) bd).trans h3, (World.frozen?_of_block (w := W) (a := ⟨d, 1, none⟩) bd).trans h4⟩
/-- The cells of some clocks. -/
def kpF (q : Nat) (l : List Int) (s : Mat) : Row := fun k => s (kpI l (k / (q + 1))) (kpI l (k % (q + 1)))
theorem KpSt.rc {w0 w2 : World} {d q m : Nat} {l : List Int} {s : Mat} {v : Value} {W : World} (hm : m = (q + 1) * (q + 1)) (h : KpSt w0 w2 d q (kpF q l s) m v W) : ∃ g, w2.heap.size ≤ g ∧ RC W d g q m (rkM l s) := by
  obtain ⟨h1, h2, h3, h4, h5, h6, h7⟩ := h
  have mp : 0 < m := by rw [hm]; exact Nat.mul_pos (by omega) (by omega)
  rcases h1.2 with ⟨-, hz⟩ | ⟨gv, cw, cur, rfl, hg, -⟩
  · omega
  · refine ⟨gv, hg, cw, h2, h3, by omega, fun i j hi hj => ?_, fun i j hi hj => h1.frozenAt _⟩
    have lt : i * (q + 1) + j < m := by rw [hm]; exact pos_lt hi hj
    rw [h1.cellAt _ (by omega)]
    have d1 : (i * (q + 1) + j) / (q + 1) = i := by rw [Nat.mul_comm, Nat.mul_add_div (by omega), Nat.div_eq_of_lt (by omega)]; rfl
    have d2 : (i * (q + 1) + j) % (q + 1) = j := by rw [Nat.mul_comm, Nat.mul_add_mod, Nat.mod_eq_of_lt (by omega)]
    simp [listOf, lt, kpF, rkM, d1, d2]
theorem kpF_at (q : Nat) (l : List Int) (s : Mat) (i j : Nat) (hj : j ≤ q) : kpF q l s (i * (q + 1) + j) = s (kpI l i) (kpI l j) := by
  have d1 : (i * (q + 1) + j) / (q + 1) = i := by rw [Nat.mul_comm, Nat.mul_add_div (by omega), Nat.div_eq_of_lt (by omega)]; rfl
  have d2 : (i * (q + 1) + j) % (q + 1) = j := by rw [Nat.mul_comm, Nat.mul_add_mod, Nat.mod_eq_of_lt (by omega)]
  unfold kpF
  rw [d1, d2]
set_option maxHeartbeats 8000000 in
theorem rkeep_full (r n m B q cap : Nat) (ad : Option Addr) (l : List Int) (c : Row) (p : Mat) (w : World) (hn : n ≤ 8) (hm : m = (n + 1) * (n + 1)) (h : RZone w B r n (listOf c m)) (hp : FullC n m p c) (h32 : C32 c) (hl : l.length = q) (hv : IntsAt w (.slice ad q cap) l) (hq : q ≤ 8) (ha : hasA n l q = true)
    (s2 : Ok q (rkM l (rowMat n (listOf c m)))) (s3 : ∀ j, j ≤ q → rkM l (rowMat n (listOf c m)) 0 j ≤ 1) :
    Calls Tryz.prog 17 #[.pointer (some ⟨r, 0, none⟩), .slice ad q cap] w fun e w' => RefOut w' q ((q + 1) * (q + 1)) e (zoneR q (rkM l (rowMat n (listOf c m)))) ∧ Below w.heap.size w w' := by
  have mp : 0 < m := by rw [hm]; exact Nat.mul_pos (by omega) (by omega)
  have h0 := hp.zero hm
  have HE : Hid (∀ w', Below w.heap.size w w' → _) := fun w' hb => rempty_is (h.past hb) mp
  rw [h0] at HE
  have HO : Hid (∀ w', Below w.heap.size w w' → _) := fun w' hb => open_any r n m B (listOf c m) w' hn hm (listOf_len c m) (fun j hj => by rw [listOf_get c m j hj]; exact h32 j) (h.past hb)
  have HAt : Hid (∀ (d g i j : Nat) w, i ≤ n → j ≤ n → RC w d g n m (rowMat n (listOf c m)) → _) := fun d g i j w hi hj hr => rat_any d g n m i j (rowMat n (listOf c m)) w hn hi hj hm hr
  have HS : Hid (∀ (d g : Nat) w, RC w d g q ((q + 1) * (q + 1)) (rkM l (rowMat n (listOf c m))) → _) := fun d g w hr => shut_any d g q ((q + 1) * (q + 1)) (rkM l (rowMat n (listOf c m))) w hq rfl hr s2 s3
  have AT : Hid (∀ k, k < q → clockB n (l.getD k 0) = true) := fun k hk => decide_eq_true (by have := hasA_at ha k hk; omega)
  have KA : Hid (∀ i, i ≤ q → ((0 :: l).getD i 0) = (kpI l i : Int) ∧ kpI l i ≤ n) := fun i hi => kp_at (by rw [hl]; exact ha) i (by omega)
  have HI : Hid (∀ w' k, Below w.heap.size w w' → _) := fun w' k hb => isClock_any (l.getD k 0) (h.past hb)
  have HC : Hid (∀ w', Below w.heap.size w w' → ∀ k, k < q → ∃ cb off, ad = some ⟨cb, off, none⟩ ∧ w'.cell? ⟨cb, off + k, none⟩ = some (.int .i64 (l.getD k 0))) := fun w' hb k hk => (hv.past hb).at hl k hk
  have HL := hideD hl
  obtain ⟨i0, hi0, hz0, hz1, hz2⟩ := info_parts info_int'
  obtain ⟨i1, ki0, kz0, kz1, kz2⟩ := info_parts info_i64
  have O0 : Hid ((w.alloc (.cells #[.int .i64 0] 3)).ownsRow w.heap.size 3 1 (.slice (some ⟨w.heap.size, 0, none⟩) 1 1) 1 [.int .i64 0]) := own_one _ _ _
  have Bz : Hid (Below w.heap.size w (w.alloc (.cells #[.int .i64 0] 3))) := below_one _ _
  generalize rowMat n (listOf c m) = s at *
  have HQ : Hid (q ≤ 8) := hq
  clear h hv hl ha s2 s3 hp h32 hm h0
  have q1 : ¬ ((8 : Int) < (q : Int)) := by omega
  go_enter Tryz.func17, Tryz.ntmps17
  go_wp2_with fail
  go_loopg [6, 7] q (fun g' v u wr => ∃ (K : Nat) (va : Value), v = va ∧ K ≤ q ∧ g' = q - K ∧ u = .int .i64 (K : Int) ∧ Hid (wr.ownsRow w.heap.size 3 1 va (K + 1) ((0 :: l.take K).map (Value.int .i64))) ∧ Hid (Below w.heap.size w wr))
  case atStart => exact ⟨0, _, rfl, by omega, rfl, rfl, O0, Bz⟩
  case round =>
    obtain ⟨K, va, hva, hK, rfl, rfl, hO, hB⟩ := hrel
    replace hva := hva.symm
    subst hva
    clear O0 Bz
    by_cases ck : K < q
    · have k0 : (0 : Int) ≤ (K : Int) := by omega
      have k1 : (K : Int) < (q : Int) := by omega
      obtain ⟨cb, off, rfl, a1⟩ := HC.out wr hB.out K ck
      have H1 := hideD (HI.out wr K hB.out)
      have hx := AT.out K ck
      rw [hx] at H1
      have TN := hideD (take_next l K (by have := HL.out; omega))
      clear hx HO HAt HS KA
      generalize l.getD K 0 = x at H1 TN a1
      go_wp2_with fail
      refine H1.out.mono ?_
      rintro e w1 ⟨rfl, hw⟩
      subst hw
      clear H1
      have SZ : Hid (w.heap.size ≤ w1.heap.size) := hB.out.size
      have ob := hideD (fun k hk => (hO.out.lt k hk).1)
      go_wp2_with (at_builtin; refine wpList_append_own _ rfl _ _ 23 rfl w.heap.size 3 i0 (.int .i64 0) 1 8 Tryz.underlying23 hi0 hz0 hz1 hz2 rfl (by decide) _ (K + 1) ((0 :: l.take K).map (Value.int .i64)) rfl (hO.out.alloc _) ⟨w1.heap.size, 0, none⟩ 1 1 [.int .i64 x] rfl rfl (cell_one_new w1 _ _) (fun u hu => by simp at hu; subst hu; rfl) (by unfold maxLen; omega) (by omega) (by have := SZ.out; simp; omega) ?_; intro v' w3 hown hgrow hnil; have B3 : Hid (Below w.heap.size w w3) := (hB.out.alloc SZ.out _).grown hgrow (by have := SZ.out; simp; omega) (fun k hk => ob.out k hk); rw [TN.out] at hown; have O3 := hideD hown; clear hown hgrow hnil)
      go_roundg (q - (K + 1))
      case measure => omega
      case rel => exact ⟨K + 1, _, rfl, by omega, rfl, by go_num, O3, B3⟩
    · have k1 : ¬ ((K : Int) < (q : Int)) := by omega
      have eK : K = q := by omega
      have H1 := hideD (HE.out wr hB.out)
      have hO' : wr.ownsRow w.heap.size 3 1 va (q + 1) (((0 :: l) : List Int).map (Value.int .i64)) := by
        have := hO.out
        rw [eK, List.take_of_length_le (by have := HL.out; omega)] at this
        exact this
      obtain ⟨ga, cp, rfl⟩ := own_form hO'
      have AC : Hid (∀ i, i ≤ q → wr.cell? ⟨ga, i, none⟩ = some (.int .i64 (kpI l i : Int))) := fun i hi => by
        have hlt : i < (0 :: l).length := by have := HL.out; simp; omega
        rw [hO'.cellAt i (by omega), ← (KA.out i hi).1, List.getElem?_map, List.getElem?_eq_getElem hlt]
        simp [List.getD, List.getElem?_eq_getElem hlt]
      have KN : Hid (∀ i, i ≤ q → kpI l i ≤ n) := fun i hi => (KA.out i hi).2
      have H2 := hideD (HO.out wr hB.out)
      have gl : Hid (ga < wr.heap.size) := World.block_lt_of_cell? _ _ (AC.out 0 (by omega))
      clear HI HC HE AT hO hO' KA HO
      subst eK
      go_wp2_with fail
      refine H1.out.mono ?_
      rintro e w1 ⟨rfl, hw⟩
      subst hw
      clear H1
      go_wp2_with fail
      refine H2.out.mono ?_
      rintro e w2 ⟨⟨d1, g1, rfl, hd1, hg1, hR⟩, hb2⟩
      have B2 := hideD (beyondD hB.out hb2)
      have AC2 : Hid (∀ i, i ≤ K → w2.cell? ⟨ga, i, none⟩ = some (.int .i64 (kpI l i : Int))) := fun i hi => kc _ _ hb2 (AC.out i hi)
      have RO := hideD hR
      have LT := hideD hR.lt
      have GL : Hid (ga < w2.heap.size) := by show _ < _; have := gl.out; have := hb2.size; omega
      clear hR hb2 H2 hB AC gl hd1 hg1
      have Ba := hideD (below_one w2 (.cells #[.int .i64 K, .slice none 0 0] 66))
      have S0 : Hid (KpSt w2 (w2.alloc (.cells #[.int .i64 K, .slice none 0 0] 66)) w2.heap.size K (kpF K l s) 0 (.slice none 0 0) (w2.alloc (.cells #[.int .i64 K, .slice none 0 0] 66))) := ⟨World.ownsRow_nil _ _ _ _, by simp [go_sem], by simp [go_sem], by simp [go_sem], OnlyB.refl _ _, by simp, Ba.out⟩
      have AC3 : Hid (∀ i, i ≤ K → (w2.alloc (.cells #[.int .i64 K, .slice none 0 0] 66)).cell? ⟨ga, i, none⟩ = some (.int .i64 (kpI l i : Int))) := fun i hi => kc _ _ Ba.out (AC2.out i hi)
      have RO3 := hideD (RO.out.past Ba.out)
      have SZ3 : Hid (w2.heap.size < (w2.alloc (.cells #[.int .i64 K, .slice none 0 0] 66)).heap.size) := by show _ < _; simp
      obtain ⟨Q, hQ⟩ : ∃ Q : Nat, Q = K + 1 := ⟨_, rfl⟩
      have HQe := hideD hQ
      have Q9 : Q ≤ 9 := by have := HQ.out; omega
      rw [← hQ]
      clear hQ AC3 RO3
      go_wp2_with fail
      generalize w2.alloc (.cells #[.int .i64 K, .slice none 0 0] 66) = w3 at *
      go_loopw [10] (fun z wr => ∃ (I : Nat) (v : Value), I ≤ Q ∧ z = .int .i64 (I : Int) ∧ Hid (KpSt w2 w3 w2.heap.size K (kpF K l s) (I * Q) v wr)) (fun z _ => Q - (intOf z).toNat)
      case atStart => exact ⟨0, _, by omega, rfl, by show KpSt _ _ _ _ _ _ _ _; rw [Nat.zero_mul]; exact S0.out⟩
      case round =>
        obtain ⟨I, v, hI, rfl, hS⟩ := hrel
        clear S0
        by_cases cI : I < Q
        · have I0 : (0 : Int) ≤ (I : Int) := by omega
          have I1 : (I : Int) < (Q : Int) := by omega
          go_wp2_with fail
          go_loopw [11] (fun z wr => ∃ (J : Nat) (v : Value), J ≤ Q ∧ z = .int .i64 (J : Int) ∧ Hid (KpSt w2 w3 w2.heap.size K (kpF K l s) (I * Q + J) v wr)) (fun z _ => Q - (intOf z).toNat)
          case atStart => exact ⟨0, v, by omega, rfl, hS⟩
          case round =>
            clear hS
            obtain ⟨J, v, hJ, rfl, hS⟩ := hrel
            by_cases cJ : J < Q
            · have J0 : (0 : Int) ≤ (J : Int) := by omega
              have J1 : (J : Int) < (Q : Int) := by omega
              have iK : I ≤ K := by have := HQe.out; omega
              have jK : J ≤ K := by have := HQe.out; omega
              have hBd := hideD hS.out.2.2.2.2.2.2
              have RCr := hideD (RO.out.past hBd.out)
              have a1 := kc _ _ hBd.out (AC2.out I iK)
              have a2 := kc _ _ hBd.out (AC2.out J jK)
              have HA1 := hideD (fun w => HAt.out d1 g1 (kpI l I) (kpI l J) w (KN.out I iK) (KN.out J jK))
              have fK : kpF K l s (I * Q + J) = s (kpI l I) (kpI l J) := by rw [HQe.out]; exact kpF_at K l s I J jK
              have q1 := hS.out.2.2.1
              have q2 := hS.out.2.2.2.1
              have AP := hideD (fun v' w1 o W0 hW hb => KpSt.app (v' := v') (w1 := w1) (o := o) (W0 := W0) hS.out hW hb)
              have MD := hideD (fun w1 o W0 hW => KpSt.mid (w1 := w1) (o := o) (W0 := W0) hS.out hW)
              rw [fK] at AP
              have OW := hideD hS.out.1
              have SZ : Hid (w3.heap.size ≤ wr.heap.size) := hS.out.2.2.2.2.1.1
              have sz1 : w2.heap.size < wr.heap.size := Nat.lt_of_lt_of_le hS.out.2.2.2.2.2.1 SZ.out
              have sz2 : ga < wr.heap.size := by have := GL.out; omega
              have NB : Hid (I * Q + J < 81) := by
                show _ < _
                have : I * Q ≤ 8 * Q := Nat.mul_le_mul_right _ (by omega)
                omega
              generalize hX : s (kpI l I) (kpI l J) = X at *
              have Z1 : ((kpI l I : Nat) : Int) = ((kpI l I : Nat) : Int) := rfl
              generalize kpI l I = xi at *
              generalize kpI l J = xj at *
              clear hS fK Z1 AC2 KN HAt RO HS
              obtain ⟨N, hN⟩ : ∃ N, N = I * Q + J := ⟨_, rfl⟩
              rw [← hN] at AP OW NB
              have HN := hideD hN
              clear hN
              go_upto_region 22 with (fail)
              go_region_law (first
                | (refine step_own rfl (.tmp 67) (.tmp 78) 64 rfl w3.heap.size 2 i1 (.int .i64 0) 1 8 Tryz.underlying64 ki0 kz0 kz1 kz2 rfl (by decide) v N ((listOf (kpF K l s) N).map (Value.int .i64)) (by simp [Act.eval]) ((own_past OW.out (by first | exact below_draw _ _ | exact (Below.refl _ _).drew | exact Below.refl _ _ | exact below_drewN (Below.refl _ _).drew _)).alloc _) ⟨wr.heap.size, 0, none⟩ 1 1 [.int .i64 X] (by simp [Act.eval]) rfl (by exact cell_one_new _ _ _) (fun u hu => by simp at hu; subst hu; rfl) (by have := NB.out; unfold maxLen; omega) (by have := NB.out; omega) (by have := SZ.out; simp; omega) ?_; intro v' w4 hown hgrow; obtain ⟨gv, cw, rfl⟩ := own_form hown; obtain ⟨t1, t2⟩ := MD.out _ _ _ (by rfl) hgrow; have S3 := hideD (AP.out _ _ _ _ (by rfl) (by first | exact hBd.out.drew | exact below_drewN hBd.out.drew _ | exact below_drewN hBd.out _ | exact hBd.out) hown hgrow); clear hown hgrow q1 q2)
                | (go_simp; go_at_call 38; refine (HA1.out _ (by first | exact RCr.out | exact RCr.out.drewN _ | exact RCr.out.drewN 1)).mono ?_; rintro e' w9 ⟨rfl, k9, rfl⟩; have q3 : (wr.drewN (1 + k9)).cell? ⟨w2.heap.size, 1, none⟩ = some v := q1; have q4 : ((wr.drewN (1 + k9)).alloc (.cells #[.int .i64 X] 2)).cell? ⟨w2.heap.size, 1, none⟩ = some v := kc _ _ (below_one (wr.drewN (1 + k9)) _) q3))
              all_goals
                go_wp2_with fail
                go_roundw
                case rel => exact ⟨J + 1, _, by omega, by go_num, by show KpSt _ _ _ _ _ _ _ _; rw [← Nat.add_assoc, ← HN.out]; exact S3.out⟩
                case measure => simp [intOf]; omega
            · have eJ : J = Q := by omega
              have J1 : ¬ ((J : Int) < (Q : Int)) := by omega
              go_wp2_with fail
              go_roundw
              case rel => exact ⟨I + 1, v, by omega, by go_num, by show KpSt _ _ _ _ _ _ _ _; rw [Nat.succ_mul, ← eJ]; rw [eJ] at hS ⊢; exact hS.out⟩
              case measure => simp [intOf]; omega
        · have eI : I = Q := by omega
          have I1 : ¬ ((I : Int) < (Q : Int)) := by omega
          have hS' : KpSt w2 w3 w2.heap.size K (kpF K l s) ((K + 1) * (K + 1)) v wr := by rw [← HQe.out]; rw [eI] at hS; exact hS.out
          obtain ⟨gv, hgv, hRC⟩ := KpSt.rc rfl hS'
          have H3 := hideD (HS.out w2.heap.size gv wr hRC)
          have Bw := hideD (beyondD B2.out hS.out.2.2.2.2.2.2)
          have GV : Hid (w2.heap.size ≤ gv ∧ gv < wr.heap.size) := ⟨by have := SZ3.out; omega, hRC.lt.2⟩
          clear hS hS' hRC HS HAt AC2 RO KN
          go_wp2_with fail
          refine H3.out.mono ?_
          rintro e w5 ⟨⟨pp, kk, rfl, ho⟩, hb5⟩
          have B5 : Hid (Below w.heap.size w w5) := Bw.out.trans (hb5.out.mono (by have := GV.out; have := B2.out.size; omega))
          clear H3 hb5
          go_wp2_with fail
          exact bodyPost_ret (v := .tuple #[.pointer pp, .int .i64 kk]) (by simp [results, Tryz.results17, go_sem]) rfl ⟨ho.out, B5.out⟩
end Go.Proofs.YtfhfdpapppgfpaaGreatDoor
