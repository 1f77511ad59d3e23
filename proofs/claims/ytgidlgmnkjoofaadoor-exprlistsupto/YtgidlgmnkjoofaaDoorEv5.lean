/-
  The walk of ExprLists.
-/
import Derived.Test.YtgidlgmnkjoofaaDoorEv4
import Derived.Test.YtgidlgmnkjoofaaDoorAoT
import Derived.Test.YtgidlgmnkjoofaaDoorVa8
import Derived.Test.YtgidlgmnkjoofaaDoorRe8
import Derived.Test.YtgidlgmnkjoofaaDoorPm
import Derived.OrdersHeld
import Derived.Deep.RegionHeld
namespace Go.Proofs.YtgidlgmnkjoofaaDoor
open Go.RowKit
set_option linter.unusedVariables false
set_option maxRecDepth 100000
attribute [local go_sem] Oper.semAt_some
theorem infoNL : (Tryd.prog.info? 23).map (fun i => (i.zero, i.size, i.bytes)) = some (some (.slice none 0 0), 1, 24) := by kernel_rfl
theorem own_keep {W W' : World} {base e s n : Nat} {v : Value} {xs : List Value} (h : W.ownsRow base e s v n xs) (hb : Below W.heap.size W W') : W'.ownsRow base e s v n xs :=
  h.kept (row := none) ⟨hb.os, hb.tape, hb.output, hb.size, fun k hk _ => hb.block k hk⟩ (by cases v.ownBlock <;> simp)
theorem own_low {W : World} {base b2 e s n : Nat} {v : Value} {xs : List Value} (h : W.ownsRow b2 e s v n xs) (hb : base ≤ b2) : W.ownsRow base e s v n xs := by
  refine ⟨h.1, ?_⟩
  rcases h.2 with q | ⟨g, cap, cur, rfl, a1, a2⟩
  · exact .inl q
  · exact .inr ⟨g, cap, cur, rfl, Nat.le_trans hb a1, a2⟩
theorem bookF_new (w : World) : BookF (w.alloc (.cells #[.slice none 0 0, .slice none 0 0, .slice none 0 0, .slice none 0 0, .slice none 0 0, .slice none 0 0, .slice none 0 0, .slice none 0 0, .slice none 0 0, .slice none 0 0, .slice none 0 0, .slice none 0 0, .slice none 0 0, .slice none 0 0] 48)) w.heap.size (fun _ => .slice none 0 0) := World.alloc_heap_new w _
theorem hand_two {w : World} {base Bk e es size n : Nat} {rv v0 v1 : Value} {xs0 xs1 : List Value} (h0 : w.ownsRow base e size v0 n xs0) (h1 : w.ownsRow base e size v1 n xs1) (l0 : ∀ g, v0.ownBlock = some g → g < Bk) (l1 : ∀ g, v1.ownBlock = some g → Bk + 1 ≤ g) (hn : n ≤ 1000000000) (row : w.ownsRow (Bk + 1) es 1 rv 2 [v0, v1]) :
    HandK w base Bk e es size 2 (fun i => if i = 0 then v0 else v1) (fun _ => n) (fun g => if g < Bk then 0 else 1) rv [v0, v1] := by
  refine ⟨⟨fun j h hj eh => ?_, fun j hj => by omega, by omega⟩, row, fun i hi => ?_, fun j h hj eh => ?_, fun j hj => ?_⟩
  · by_cases c : j = 0
    · subst c
      rw [if_pos (l0 h eh)]
    · simp only [if_neg c] at eh
      have := l1 h eh
      rw [if_neg (by omega)]
      omega
  · match i, hi with
    | 0, _ => rfl
    | 1, _ => rfl
  · by_cases c : j = 0
    · subst c
      have := l0 h eh
      omega
    · simp only [if_neg c] at eh
      have := l1 h eh
      omega
  · by_cases c : j = 0
    · subst c
      exact ⟨_, h0⟩
    · simp only [if_neg c]
      exact ⟨_, h1⟩
set_option maxHeartbeats 8000000 in
theorem exprLists.inner (ad : Option Addr) (cap : Nat) (ls : List Sl) (w : World) (hT : OpsT w) (hP : Pow w) (hR : RowV w ad (ls.flatMap SlC)) (hN : ∀ e ∈ ls, RowV w e.1.1 (e.2.flatMap NodeC)) (hI : ∀ e ∈ ls, ∀ n ∈ e.2, n.1 < 256) (hS : (ls.map (·.2)).flatten.length + ls.length ≤ 1000000000) :
    Calls Tryd.prog 3 #[.slice ad ls.length cap] w fun e w' => e = .returned (.bool true) ∧ Below w.heap.size w w' := by
  obtain ⟨j0, hj, hy0, hy1, hy2⟩ := info_parts infoNL
  have HT := hideR hT
  have HP := hideR hP
  have HR := hideR hR
  have HN := hideR hN
  have HS := hideR hS
  have HI := hideR hI
  clear hT hP hR hN hS hI
  generalize hn : ls.length = n at *
  have HL := hideR hn
  have n9 : n ≤ 1000000000 := by have := HS.out; omega
  clear hn
  go_enter Tryd.func3, Tryd.ntmps3
  go_wp2_with fail
  go_loopw [3, 4] (fun ow i wr => ∃ (j : Nat) (v : Value) (Gs : List Sl), j ≤ n ∧ ow = v ∧ i = .int .i64 j ∧ Hid (HandS w.heap.size w wr Gs v ∧ Gs.map (·.2) = (ls.take j).map (·.2))) (fun _ i _ => n - (intOf i).toNat)
  case atStart => exact ⟨0, _, [], by omega, rfl, rfl, HandS.start w, rfl⟩
  case round =>
    obtain ⟨j, v, Gs, hj', hv, rfl, E⟩ := hrel
    replace hv := hv.symm
    subst hv
    have k0 : (0 : Int) ≤ (j : Int) := by omega
    by_cases cj : j < n
    · have i1 : (j : Int) < (n : Int) := by omega
      have jl : j < ls.length := by rw [HL.out]; exact cj
      obtain ⟨b, off, rfl, cc⟩ := rowV_at (s := 1) (fun _ => rfl) (HR.out.later E.out.1.b) (by decide) jl
      have x0 := cc 0 (by decide)
      simp only [SlC, List.getElem?_cons_zero, Nat.mul_one, Nat.add_zero] at x0
      clear cc
      have HE := hideR (HN.out _ (List.getElem_mem jl))
      have TK := hideR (take_more ls j jl)
      have FL := hideR (flat_take_le ls (j + 1))
      rw [TK.out] at FL
      generalize ls[j]'jl = el at *
      obtain ⟨⟨ea, ec⟩, el⟩ := el
      simp only at x0 HE TK FL
      have el9 : el.length ≤ 1000000000 := by
        have h1 := FL.out
        have := HS.out
        rw [List.flatten_append, List.length_append, List.flatten_cons, List.flatten_nil, List.append_nil] at h1
        omega
      have GL : Hid (Gs.length = j) := by
        show _ = _
        have := congrArg List.length E.out.2
        rw [List.length_map, List.length_map, List.length_take] at this
        omega
      have HH := hideR (hand_nodes ea ec (ndsOf el) wr (nds_row (HE.out.later E.out.1.b)) (by show el.length * 16 ≤ _; omega))
      obtain ⟨q, hq⟩ : ∃ q, el.length = q := ⟨_, rfl⟩
      have eq' : (ndsOf el).q = q := hq
      rw [eq'] at HH
      rw [hq] at x0
      have HQ := hideR hq
      clear FL hq eq'
      go_wp2_with fail
      refine HH.out.mono ?_
      rintro e w1 ⟨rfl, hv1, hlt, hb⟩
      have E1 := hideR (E.out.1.past hb)
      have V1 := hideR hv1
      have LT := hideR hlt
      have NB : Hid (v.ownBlock ≠ some wr.heap.size) := fun e => by have := (E.out.1.row.lt _ e).2; omega
      have BL := hideR E.out.1.le
      have EX := hideR E.out.2
      clear hb hv1 hlt HH E
      go_wp2_with (at_builtin; refine wp_app_two _ rfl _ _ 22 rfl w.heap.size 23 j0 (.slice none 0 0) 1 24 Tryd.underlying22 hj hy0 hy1 hy2 rfl (by decide) v _ _ rfl (E1.out.row.alloc _) _ 1 [.slice (some ⟨wr.heap.size, 0, none⟩) q (q + 9)] rfl rfl (cell_one_new _ _ _) (by simp [Value.oneCell']) (by rw [GL.out]; unfold maxLen; omega) (by rw [GL.out]; omega) (Nat.le_trans E1.out.le (by simp)) ?_; intro v3 w7 hown hc)
      have E3 := hideR (HandS.step (el := el) (E1.out.past (single _ _)) (V1.out.later (single _ _)) BL.out (by have := LT.out; simp; omega) NB.out (by rw [HQ.out]; exact hown) hc)
      clear hown hc
      go_wp2_with fail
      go_roundw
      case rel => exact ⟨j + 1, _, _, by omega, rfl, by go_num, E3.out, by rw [List.map_append, EX.out, TK.out]; rfl⟩
      case measure => first | (simp [intOf]; done) | (simp [intOf]; omega)
    · have i1 : ¬ (j : Int) < (n : Int) := by omega
      have tk : ls.take j = ls := List.take_of_length_le (by have := HL.out; omega)
      rw [tk] at E
      obtain ⟨oa, oc, rfl, ho1, ho2⟩ := E.out.1.open_
      have GL : Hid (Gs.length = ls.length) := by
        show _ = _
        have := congrArg List.length E.out.2
        rw [List.length_map, List.length_map] at this
        exact this
      have HS2 : Hid ((Gs.map (·.2)).flatten.length + Gs.length ≤ 1000000000) := by
        show _ ≤ _
        rw [E.out.2, GL.out, HL.out]
        exact HS.out
      have HI2 : Hid (∀ e ∈ Gs, ∀ n ∈ e.2, n.1 < 256) := fun e he n hn => by
        have h1 : e.2 ∈ Gs.map (·.2) := List.mem_map.2 ⟨e, he, rfl⟩
        rw [E.out.2] at h1
        obtain ⟨e', he', q⟩ := List.mem_map.1 h1
        exact HI.out e' he' n (by rw [q]; exact hn)
      have RO := hideR ho1
      have RE := hideR ho2
      have EX := hideR E.out.2
      have SZ := hideR E.out.1.le
      have BW := hideR E.out.1.b
      have HH := hideR E.out.1
      have B0 : Hid (Below wr.heap.size wr wr) := Below.refl _ _
      have A1 : Hid (∀ W, Below wr.heap.size wr W → Calls Tryd.prog 5 #[.slice oa Gs.length oc] W fun e w' => ∃ v, e = .returned v ∧ w'.ownsRow W.heap.size 54 2 v (allL (ls.map (·.2))).length ((allL (ls.map (·.2))).flatMap NodeC) ∧ Below W.heap.size W w') := fun W hW => by
        have h := all_any oa oc Gs W (RO.out.later hW) (fun e he => (RE.out e he).later hW) HS2.out
        rw [EX.out] at h
        exact h
      have V1 : Hid (∀ W, Below wr.heap.size wr W → Calls Tryd.prog 6 #[.slice oa Gs.length oc] W fun e w' => ∃ v, e = .returned v ∧ OwnZ w' W.heap.size v (varsI (vnL (ls.map (·.2)).flatten)) ∧ Below W.heap.size W w') := fun W hW => by
        have h := vars_any oa oc Gs W (RO.out.later hW) (fun e he => (RE.out e he).later hW) HI2.out HS2.out
        rw [EX.out] at h
        exact h
      clear ho1 ho2 E HI2 RE
      have AL : Hid ((allL (ls.map (·.2))).length ≤ 1000000000) := by
        have h1 := allL_len (ls.map (·.2))
        rw [List.length_map] at h1
        have := HS.out
        have := HL.out
        show _ ≤ _
        omega
      have ZL : Hid ((varsI (vnL (ls.map (·.2)).flatten)).length ≤ 1000000000) := by
        have h0 := varsI_len (vnL (ls.map (·.2)).flatten)
        have h1 := vnL_len (ls.map (·.2)).flatten
        have := HS.out
        show _ ≤ _
        omega
      have L1 : Hid (∀ W, Below wr.heap.size wr W → Calls Tryd.prog 7 #[] W fun e w' => e = .returned (.bool true) ∧ Below W.heap.size W w') := fun W hW => live_any W (ops_later HT.out (BW.out.trans (hW.mono SZ.out))) (pow_later HP.out (BW.out.trans (hW.mono SZ.out)))
      go_wp2_with fail
      refine (A1.out _ B0.out).mono ?_
      rintro e w1 ⟨va, rfl, oa1, hb⟩
      have B1 := hideR (beyond B0.out hb)
      have OA := hideR oa1
      clear oa1 hb
      go_wp2_with fail
      refine (V1.out _ B1.out).mono ?_
      rintro e w2 ⟨vv, rfl, ov1, hb⟩
      have B2 := hideR (beyond B1.out hb)
      have OV := hideR ov1
      have NB := hideR hb
      clear ov1 hb
      go_wp2_with fail
      refine (L1.out _ B2.out).mono ?_
      rintro e w3 ⟨rfl, hb⟩
      have B3 := hideR (beyond B2.out hb)
      have OA3 := hideR (own_keep OA.out (beyond NB.out hb))
      have OV3 := hideR (own_keep OV.out hb)
      clear hb
      have RA := hideR (rall_any ad cap ls w3 (HR.out.later (BW.out.trans (B3.out.mono SZ.out))) (fun e he => (HN.out e he).later (BW.out.trans (B3.out.mono SZ.out))) (by rw [HL.out]; exact HS.out))
      rw [HL.out] at RA
      go_wp2_with fail
      refine RA.out.mono ?_
      rintro e w4 ⟨vr, rfl, or1, hb⟩
      have B4 := hideR (beyond B3.out hb)
      have OA4 := hideR (own_keep OA3.out hb)
      have OV4 := hideR (own_keep OV3.out hb)
      have OR4 := hideR or1
      clear or1 hb RA OA3 OV3 OA OV NB
      obtain ⟨aa, ca, rfl, ra, -⟩ := own_rowV OA4.out
      obtain ⟨ar, cr, rfl, rr, -⟩ := own_rowV OR4.out
      have SN := hideR (same_nds aa ar ca cr (ndsOf (allL (ls.map (·.2)))) w4 (nds_row ra) (nds_row rr) (by have := AL.out; show (allL (ls.map (·.2))).length ≤ _; omega))
      clear ra rr OR4
      obtain ⟨qa, hqa⟩ : ∃ qa, (allL (ls.map (·.2))).length = qa := ⟨_, rfl⟩
      have eqa : (ndsOf (allL (ls.map (·.2)))).q = qa := hqa
      rw [eqa] at SN
      have HQA := hideR hqa
      rw [hqa] at OA4 ⊢
      clear hqa eqa
      go_wp2_with fail
      refine SN.out.mono ?_
      rintro e w5 ⟨rfl, hb⟩
      have B5 := hideR (beyond B4.out hb)
      have OA5 := hideR (own_keep OA4.out hb)
      have OV5 := hideR (own_keep OV4.out hb)
      clear hb SN OA4 OV4
      have RV := hideR (rvars_any ad cap ls w5 (HR.out.later (BW.out.trans (B5.out.mono SZ.out))) (fun e he => (HN.out e he).later (BW.out.trans (B5.out.mono SZ.out))) HI.out (by rw [HL.out]; exact HS.out))
      rw [HL.out] at RV
      obtain ⟨zs, hzs⟩ : ∃ zs, varsI (vnL (ls.map (·.2)).flatten) = zs := ⟨_, rfl⟩
      rw [hzs] at RV OV5 ZL V1
      go_wp2_with fail
      refine RV.out.mono ?_
      rintro e w6 ⟨vz, rfl, oz, hb⟩
      have B6 := hideR (beyond B5.out hb)
      have OA6 := hideR (own_keep OA5.out hb)
      have OV6 := hideR (own_keep OV5.out hb)
      obtain ⟨ai, ci, rfl, hz1, -, -⟩ := own_zs OV6.out
      obtain ⟨az, cz, rfl, hz2, -, -⟩ := own_zs oz
      have IV : ∀ {a : Option Addr}, ZsAt w6 a zs → IntsV w6 a ⟨zs.length, fun k => zs.getD k 0⟩ := fun h k hk => by
        obtain ⟨b, off, e, c⟩ := h k hk
        exact ⟨b, off, e, by rw [c]; simp [List.getD, List.getElem?_eq_getElem (show k < zs.length from hk)]⟩
      have SI := hideR (same_ints ai az ci cz ⟨zs.length, fun k => zs.getD k 0⟩ w6 (IV hz1) (IV hz2) (by have := ZL.out; show zs.length ≤ _; omega))
      clear hb RV OA5 OV5 oz hz1 hz2 IV
      go_wp2_with fail
      refine SI.out.mono ?_
      rintro e w7 ⟨rfl, hb⟩
      have B7 := hideR (beyond B6.out hb)
      have OA7 := hideR (own_keep OA6.out hb)
      have OV7 := hideR (own_keep OV6.out hb)
      clear hb SI OA6 OV6
      go_wp2_with fail
      have Bx := hideR (single w7 (.cells #[.slice none 0 0, .slice none 0 0, .slice none 0 0, .slice none 0 0, .slice none 0 0, .slice none 0 0, .slice none 0 0, .slice none 0 0, .slice none 0 0, .slice none 0 0, .slice none 0 0, .slice none 0 0, .slice none 0 0, .slice none 0 0] 48))
      have FB := hideR (bookF_new w7)
      generalize w7.alloc (.cells #[.slice none 0 0, .slice none 0 0, .slice none 0 0, .slice none 0 0, .slice none 0 0, .slice none 0 0, .slice none 0 0, .slice none 0 0, .slice none 0 0, .slice none 0 0, .slice none 0 0, .slice none 0 0, .slice none 0 0, .slice none 0 0] 48) = W8 at *
      obtain ⟨Bk, hbk⟩ : ∃ Bk, w7.heap.size = Bk := ⟨_, rfl⟩
      rw [hbk] at FB Bx ⊢
      have HBK := hideR hbk
      clear hbk
      refine (takeNodes_any Bk 0 qa ca _ aa [] W8 FB.out (World.ownsRow_nil _ _ _ _) (by omega)).mono ?_
      rintro e w9 ⟨⟨_, rfl⟩, rn1, FB1, RN1, hb, -⟩
      have C9 : Hid (Below Bk w7 w9) := Bx.out.trans hb.out
      have B9 : Hid (Below wr.heap.size wr w9) := beyond B7.out (by rw [HBK.out]; exact C9.out)
      clear hb FB Bx
      go_wp2_with fail
      refine (A1.out _ B9.out).mono ?_
      rintro e w10 ⟨va2, rfl, oa2, hb⟩
      have B10 := hideR (beyond B9.out hb)
      have SB9 : Hid (Bk + 1 ≤ w9.heap.size) := FB1.out.lt
      have C10 : Hid (Below Bk w7 w10) := C9.out.trans (hb.mono (by have := SB9.out; omega))
      have FB2 := hideR (FB1.out.past (hb.block Bk FB1.out.lt))
      have RN2 := hideR (own_keep RN1.out hb)
      have OA2 := hideR (own_low oa2 SB9.out)
      have OA2L := hideR (own_low oa2 B9.out.size)
      clear hb oa2 FB1 RN1 C9
      obtain ⟨aa2, ca2, rfl, -, -⟩ := own_rowV OA2.out
      rw [HQA.out] at OA2 OA2L ⊢
      go_wp2_with fail
      refine (takeNodes_any Bk 1 qa ca2 _ aa2 _ w10 FB2.out RN2.out (by omega)).mono ?_
      rintro e w11 ⟨⟨_, rfl⟩, rn2, FB3, RN3, hb, ho⟩
      have C11 : Hid (Below Bk w7 w11) := C10.out.trans hb.out
      have OA3 := hideR (ho.out _ _ _ _ _ (by decide) OA2.out)
      clear hb ho FB2 RN2 C10 OA2 OA2L
      go_wp2_with fail
      refine (takeInts_any Bk 0 zs.length ci _ ai [] w11 FB3.out (World.ownsRow_nil _ _ _ _) (by omega)).mono ?_
      rintro e w12 ⟨⟨_, rfl⟩, ri1, FB4, RI4, hb, ho⟩
      have C12 : Hid (Below Bk w7 w12) := C11.out.trans hb.out
      have OA4 := hideR (ho.out _ _ _ _ _ (by decide) OA3.out)
      have RN4 := hideR (ho.out _ _ _ _ _ (by decide) RN3.out)
      have B12 : Hid (Below wr.heap.size wr w12) := beyond B7.out (by rw [HBK.out]; exact C12.out)
      clear hb ho FB3 RN3 OA3 C11
      go_wp2_with fail
      refine (V1.out _ B12.out).mono ?_
      rintro e w13 ⟨vv2, rfl, ov2, hb⟩
      have SB12 : Hid (Bk + 1 ≤ w12.heap.size) := FB4.out.lt
      have C13 : Hid (Below Bk w7 w13) := C12.out.trans (hb.mono (by have := SB12.out; omega))
      have FB5 := hideR (FB4.out.past (hb.block Bk FB4.out.lt))
      have RN5 := hideR (own_keep RN4.out hb)
      have RI5 := hideR (own_keep RI4.out hb)
      have OA5 := hideR (own_keep OA4.out hb)
      have OV5 := hideR (own_low ov2 SB12.out)
      clear hb ov2 FB4 RN4 RI4 OA4 C12
      obtain ⟨ai2, ci2, rfl, -, -, -⟩ := own_zs OV5.out
      go_wp2_with fail
      refine (takeInts_any Bk 1 zs.length ci2 _ ai2 _ w13 FB5.out RI5.out (by omega)).mono ?_
      rintro e w14 ⟨⟨_, rfl⟩, ri2, FB6, RI6, hb, ho⟩
      have C14 : Hid (Below Bk w7 w14) := C13.out.trans hb.out
      have OA6 := hideR (ho.out _ _ _ _ _ (by decide) OA5.out)
      have OV6 := hideR (ho.out _ _ _ _ _ (by decide) OV5.out)
      have RN6 := hideR (ho.out _ _ _ _ _ (by decide) RN5.out)
      have B14 : Hid (Below wr.heap.size wr w14) := beyond B7.out (by rw [HBK.out]; exact C14.out)
      clear hb ho FB5 RN5 RI5 OA5 OV5 C13
      have WB : Hid (wr.heap.size ≤ Bk) := by
        show _ ≤ _
        rw [← HBK.out]
        exact B7.out.size
      have K7 : Below w7.heap.size w7 w14 := by rw [HBK.out]; exact C14.out
      have H2 := hideR (hand_two (base := wr.heap.size) (own_low (own_keep OV7.out K7) B1.out.size) (own_low OV6.out (Nat.le_trans WB.out (Nat.le_succ _))) (fun g eg => by have := (OV7.out.lt g eg).2; have := HBK.out; omega) (fun g eg => (OV6.out.lt g eg).1) ZL.out RI6.out)
      have H8 := hideR (hand_two (base := wr.heap.size) (own_keep OA7.out K7) (own_low OA6.out (Nat.le_trans WB.out (Nat.le_succ _))) (fun g eg => by have := (OA7.out.lt g eg).2; have := HBK.out; omega) (fun g eg => (OA6.out.lt g eg).1) (by rw [← HQA.out]; exact AL.out) RN6.out)
      have AK := hideR (alone_in wr.heap.size Bk _ w14 B14.out.size FB6.out (fun k hk h2 h8 => by simp [h2, h8]) H2.out H8.out)
      clear K7
      go_wp2_with fail
      refine AK.out.mono ?_
      rintro e w15 ⟨rfl, kp⟩
      have B15 : Hid (Below wr.heap.size wr w15) := B14.out.trans (kp.toBelow B14.out.size (fun k hk => by
        rcases hk with (⟨j, hj, ej⟩ | ⟨j, hj, ej⟩) | rfl
        · obtain ⟨xs, hx⟩ := H2.out.own j hj
          exact (hx.lt k ej).1
        · obtain ⟨xs, hx⟩ := H8.out.own j hj
          exact (hx.lt k ej).1
        · exact WB.out))
      have H15 := hideR (HH.out.past B15.out)
      clear kp AK H2 H8
      have RO15 := hideR (RO.out.later B15.out)
      have HR15 := hideR (HR.out.later (BW.out.trans (B15.out.mono SZ.out)))
      have HN15 : Hid (∀ e ∈ ls, RowV w15 e.1.1 (e.2.flatMap NodeC)) := fun e he => (HN.out e he).later (BW.out.trans (B15.out.mono SZ.out))
      have BE : Hid (Below w.heap.size w w15) := BW.out.trans (B15.out.mono SZ.out)
      have SE := hideR BE.out.size
      clear RO HR HN A1 V1 L1 HH OA7 OV7 OA6 OV6 RN6 RI6 FB6 C14 B14 B12 B10 B9 B7 B6 B5 B4 B3 B2 B1 B0 HT HP
      go_wp2_with fail
      go_loopw [8] (fun i wq => ∃ (k : Nat), k ≤ n ∧ i = .int .i64 (k : Int) ∧ Hid (Below w15.heap.size w15 wq)) (fun i _ => n - (intOf i).toNat)
      case atStart => exact ⟨0, by omega, rfl, Below.refl _ _⟩
      case round =>
        obtain ⟨k, hk, rfl, BQ⟩ := hrel
        have k0 : (0 : Int) ≤ (k : Int) := by omega
        by_cases ck : k < n
        · have i1 : (k : Int) < (n : Int) := by omega
          have kl : k < ls.length := by rw [HL.out]; exact ck
          have kg : k < Gs.length := by rw [GL.out]; exact kl
          have kg' : (k : Int) < (Gs.length : Int) := by omega
          obtain ⟨b1, o1, rfl, cc⟩ := rowV_at (s := 1) (fun _ => rfl) (RO15.out.later BQ.out) (by decide) kg
          have x1 := cc 0 (by decide)
          obtain ⟨b2, o2, rfl, cc⟩ := rowV_at (s := 1) (fun _ => rfl) (HR15.out.later BQ.out) (by decide) kl
          have x2 := cc 0 (by decide)
          simp only [SlC, List.getElem?_cons_zero, Nat.mul_one, Nat.add_zero] at x1 x2
          clear cc
          obtain ⟨g, q1, -, -, -, q5⟩ := H15.out.at_ _ (List.getElem_mem kg)
          have HE := HN15.out _ (List.getElem_mem kl)
          have eG : Gs[k].2 = ls[k].2 := by
            have h := congrArg (fun l => l[k]?) EX.out
            simpa [List.getElem?_map, kg, kl] using h
          have el9 : (ls[k].2).length ≤ 1000000000 := by
            have h1 := flat_take_le ls (k + 1)
            rw [take_more ls k kl, List.flatten_append, List.length_append, List.flatten_cons, List.flatten_nil, List.append_nil] at h1
            have := HS.out
            omega
          generalize Gs[k] = ge at *
          generalize ls[k] = le at *
          obtain ⟨⟨ga, gc⟩, gl⟩ := ge
          obtain ⟨⟨ea, ec⟩, el⟩ := le
          simp only at x1 x2 q1 q5 HE eG el9
          subst eG
          injection q1 with q1 q2
          subst q1 q2
          have HKP : Hid (∀ W, Below wr.heap.size wr W → Calls Tryd.prog 15 #[.slice (some ⟨g, 0, none⟩) gl.length (gl.length + 9), .slice ea gl.length ec] W fun e w' => e = .returned (.bool true) ∧ Below W.heap.size W w') := fun W hW => kept_nds g ea ec (ndsOf gl) W (q5.later (beyond BQ.out hW)) (nds_row (HE.later (beyond BQ.out hW))) (by show gl.length * 16 ≤ _; omega)
          clear q5 HE
          go_wp2_with fail
          refine wp_region_held (S := fun w' => w'.cell? ⟨b1, o1 + k, none⟩ = some (.slice (some ⟨g, 0, none⟩) gl.length (gl.length + 9)) ∧ w'.cell? ⟨b2, o2 + k, none⟩ = some (.slice ea gl.length ec)) (by kernel_rfl) ?_
          have hHeld : wr.drew.cell? ⟨b1, o1 + k, none⟩ = some (.slice (some ⟨g, 0, none⟩) gl.length (gl.length + 9)) ∧ wr.drew.cell? ⟨b2, o2 + k, none⟩ = some (.slice ea gl.length ec) := ⟨x1, x2⟩
          have D0 := hideR ((Below.refl wr.heap.size wr).drew)
          refine wpAnyH_take (i := 0) (oi := ⟨_, _, _, _, _, _⟩) (v := ?_) rfl (by kernel_rfl) (by kernel_rfl) (by kernel_rfl) (fun _ _ _ h => h) (Or.inl ⟨by rfl, ?_⟩) (by assumption) ?_
          rotate_left
          · intro w hs1; (try dsimp only at hs1); obtain ⟨s0, s1⟩ := hs1; first | (go_simp; done) | (go_simp; with_reducible rfl)
          try simp only [Act.put, List.setIfInBounds_toArray, List.set_cons_zero, List.set_cons_succ]
          refine wpAnyH_take (i := 1) (oi := ⟨_, _, _, _, _, _⟩) (v := ?_) rfl (by kernel_rfl) (by kernel_rfl) (by kernel_rfl) (fun _ _ _ h => h) (Or.inl ⟨by rfl, ?_⟩) (by assumption) ?_
          rotate_left
          · intro w hs1; (try dsimp only at hs1); obtain ⟨s0, s1⟩ := hs1; first | (go_simp; done) | (go_simp; with_reducible rfl)
          try simp only [Act.put, List.setIfInBounds_toArray, List.set_cons_zero, List.set_cons_succ]
          refine wpAnyH_take (i := 2) (oi := ⟨_, _, _, _, _, _⟩) (v := ?_) rfl (by kernel_rfl) (by kernel_rfl) (by kernel_rfl) (fun _ _ _ h => h) (Or.inl ⟨by rfl, ?_⟩) (by assumption) ?_
          rotate_left
          · intro w hs1; (try dsimp only at hs1); obtain ⟨s0, s1⟩ := hs1; first | (go_simp; done) | (go_simp; with_reducible rfl)
          try simp only [Act.put, List.setIfInBounds_toArray, List.set_cons_zero, List.set_cons_succ]
          refine wpAnyH_take (i := 3) (oi := ⟨_, _, _, _, _, _⟩) (v := ?_) rfl (by kernel_rfl) (by kernel_rfl) (by kernel_rfl) (fun _ _ _ h => h) (Or.inl ⟨by rfl, ?_⟩) (by assumption) ?_
          rotate_left
          · intro w hs1; (try dsimp only at hs1); obtain ⟨s0, s1⟩ := hs1; first | (go_simp; done) | (go_simp; with_reducible rfl)
          try simp only [Act.put, List.setIfInBounds_toArray, List.set_cons_zero, List.set_cons_succ]
          refine wpAnyH_take (i := 4) (oi := ⟨_, _, _, _, _, _⟩) (v := ?_) rfl (by kernel_rfl) (by kernel_rfl) (by kernel_rfl) (fun _ _ _ h => h) (Or.inl ⟨by rfl, ?_⟩) (by assumption) ?_
          rotate_left
          · intro w hs1; (try dsimp only at hs1); obtain ⟨s0, s1⟩ := hs1; first | (go_simp; done) | (go_simp; with_reducible rfl)
          try simp only [Act.put, List.setIfInBounds_toArray, List.set_cons_zero, List.set_cons_succ]
          refine wpAnyH_take (i := 5) (oi := ⟨_, _, _, _, _, _⟩) (v := ?_) rfl (by kernel_rfl) (by kernel_rfl) (by kernel_rfl) (fun _ _ _ h => h) (Or.inl ⟨by rfl, ?_⟩) (by assumption) ?_
          rotate_left
          · intro w hs1; (try dsimp only at hs1); obtain ⟨s0, s1⟩ := hs1; first | (go_simp; done) | (go_simp; with_reducible rfl)
          try simp only [Act.put, List.setIfInBounds_toArray, List.set_cons_zero, List.set_cons_succ]
          refine wpAnyH_take (i := 6) (oi := ⟨_, _, _, _, _, _⟩) (v := ?_) rfl (by kernel_rfl) (by kernel_rfl) (by kernel_rfl) (fun _ _ _ h => h) (Or.inl ⟨by rfl, ?_⟩) (by assumption) ?_
          rotate_left
          · intro w hs1; (try dsimp only at hs1); obtain ⟨s0, s1⟩ := hs1; first | (go_simp; done) | (go_simp; with_reducible rfl)
          try simp only [Act.put, List.setIfInBounds_toArray, List.set_cons_zero, List.set_cons_succ]
          refine wpAnyH_take (i := 7) (oi := ⟨_, _, _, _, _, _⟩) (v := ?_) rfl (by kernel_rfl) (by kernel_rfl) (by kernel_rfl) (fun _ _ _ h => h) (Or.inl ⟨by rfl, ?_⟩) (by assumption) ?_
          rotate_left
          · intro w hs1; (try dsimp only at hs1); obtain ⟨s0, s1⟩ := hs1; first | (go_simp; done) | (go_simp; with_reducible rfl)
          try simp only [Act.put, List.setIfInBounds_toArray, List.set_cons_zero, List.set_cons_succ]
          refine wpAnyH_ready (rs := [8]) (by kernel_rfl) (by simp) ?_
          refine AllReadyH.cons (o := ⟨_, _, _, _, _, _⟩) rfl (fun KK hK => ?_) AllReadyH.nil
          go_simp
          refine (HKP.out _ D0.out).mono ?_
          rintro e w6 ⟨rfl, hb⟩
          have D1 := hideR (beyond D0.out hb)
          clear hb
          refine hK.out _ _ ⟨kc _ _ D1.out x1, kc _ _ D1.out x2⟩ (fun hHeld => ?_)
          clear hK KK
          try simp only [Act.put, List.setIfInBounds_toArray, List.set_cons_zero, List.set_cons_succ]
          refine wpAnyH_take (i := 9) (oi := ⟨_, _, _, _, _, _⟩) (v := ?_) rfl (by kernel_rfl) (by kernel_rfl) (by kernel_rfl) (fun _ _ _ h => h) (Or.inl ⟨by rfl, ?_⟩) (by assumption) ?_
          rotate_left
          · intro w hs1; (try dsimp only at hs1); obtain ⟨s0, s1⟩ := hs1; first | (go_simp; done) | (go_simp; with_reducible rfl)
          try simp only [Act.put, List.setIfInBounds_toArray, List.set_cons_zero, List.set_cons_succ]
          refine wpAnyH_done (by kernel_rfl) ?_ _
          have BQ2 := hideR (beyond BQ.out D1.out)
          go_wp2_with fail
          go_roundw
          case rel => exact ⟨k + 1, by omega, by go_num, BQ2⟩
          case measure => first | (simp [intOf]; done) | (simp [intOf]; omega)
        · have i1 : ¬ (k : Int) < (n : Int) := by omega
          go_wp2_with fail
          go_ret
          exact ⟨rfl, BE.out.trans (BQ.out.mono SE.out)⟩
end Go.Proofs.YtgidlgmnkjoofaaDoor
