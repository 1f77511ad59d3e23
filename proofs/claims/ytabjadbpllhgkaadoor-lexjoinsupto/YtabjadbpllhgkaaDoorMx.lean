/-
  The statement on tokens joined: its walk.
-/
import Derived.Test.YtabjadbpllhgkaaDoorMs
import Derived.Test.YtabjadbpllhgkaaDoorMu
namespace Go.Proofs.YtabjadbpllhgkaaDoor
open Go.RowKit
set_option linter.unusedVariables false
theorem step_own {P : Program} {ops : Array Oper} {o : Oper} {a : Act} {w : World} {K : Act → World → Prop} {Q : Exit → Act → World → Prop} {E : Prop} (hgd : o.guard = none) (s x : Operand) (t : TypeId)
    (ho : o.op = .call { callee := .builtin .append, args := #[s, x], argTypes := #[t, t] })
    (base : Nat) (e : TypeId) (i : TypeInfo) (z : Value) (size bytes : Nat) (ht : P.underlying t = some (.slice e)) (hi : P.info? e = some i) (hz : i.zero = some z)
    (hsize : i.size = size) (hby : i.bytes = bytes) (hzs : z.cells.size = size) (hsz : 0 < size)
    (v : Value) (n : Nat) (xs : List Value) (hs : a.eval s = v) (hown : w.ownsRow base e size v n xs)
    (ad : Addr) (m c : Nat) (news : List Value) (hx : a.eval x = .slice (some ad) m c) (hl : news.length = m * size) (hnews : ∀ j u, news[j]? = some u → w.cell? (ad.add j) = some u) (h1 : ∀ u ∈ news, u.oneCell' = true)
    (h63 : n + m ≤ maxLen) (hbytes : (n + m) * bytes ≤ 140737488355328) (hbase : base ≤ w.heap.size)
    (hK : ∀ v' w', w'.ownsRow base e size v' (n + m) (xs ++ news) → w.grownBy w' v.ownBlock → K (a.put o.dst v') w') :
    if Region.wanted o (yielded ops a.tmps) = true then Oper.wp P o a w K Q else E := by
  have hw : Region.wanted o (yielded ops a.tmps) = true := by simp [Region.wanted, hgd]
  rw [if_pos hw]
  exact wp_append_own w s x t ho base e i z size bytes ht hi hz hsize hby hzs hsz v n xs hs hown ad m c news hx hl hnews h1 h63 hbytes hbase fun v' w' h2 h3 _ => hK v' w' h2 h3
theorem row_drew {W : World} {base : Nat} {e : TypeId} {size n : Nat} {v : Value} {xs : List Value} (h : W.ownsRow base e size v n xs) (k : Nat) : (W.drewN k).ownsRow base e size v n xs := row_below h (below_drewN (Below.refl _ _) k)
set_option maxRecDepth 100000 in
set_option maxHeartbeats 4000000 in
theorem joins_some (g o cap : Nat) (L : List Item) (w : World) (hk : Kept w) (hr : RowO w g o L) (hL : L.length ≤ 1048576) (hsum : sumL L ≤ 3000000) (wf : ∀ x ∈ L, -9223372036854775808 ≤ x.1 ∧ x.1 ≤ 9223372036854775807) :
    Calls Tryd.prog 6 #[.slice (some ⟨g, o, none⟩) L.length cap] w fun e w' => e = .returned (.bool true) ∧ Below w.heap.size w w' := by
  obtain ⟨i0, hi, hz0, hz1, hz2⟩ := info_parts infoTok
  have HK := hideR hk
  have HX := hideR hr
  have WF := hideR wf
  clear hk hr wf
  have LB : (L.length : Int) ≤ 1048576 := by omega
  go_enter Tryd.func6, Tryd.ntmps6
  go_wp2_with fail
  go_loopw [3, 4] (fun m i wr => ∃ (v : Value) (k : Nat), k ≤ L.length ∧ m = v ∧ i = .int .i64 k ∧ Hid (wr.ownsRow w.heap.size 24 4 v k (cellsL (L.take k)) ∧ (v = .slice none 0 0 ↔ k = 0) ∧ Below w.heap.size w wr)) (fun _ i _ => L.length - (intOf i).toNat)
  case atStart => exact ⟨_, 0, Nat.zero_le _, rfl, rfl, World.ownsRow_nil _ _ _ _, by simp, Below.refl _ _⟩
  case round =>
    obtain ⟨v, k, hk, hv, rfl, I⟩ := hrel
    replace hv := hv.symm
    subst hv
    by_cases ck : k < L.length
    · have k0 : (0 : Int) ≤ (k : Int) := by omega
      have k1 : (k : Int) < (L.length : Int) := by omega
      have hb0 := I.out.2.2
      obtain ⟨c0, c1, c2, c3⟩ := HX.out.2 k ck
      have gl := HX.out.1
      replace c0 := (hb0.cell (p := ⟨g, _, none⟩) gl).trans c0
      replace c1 := (hb0.cell (p := ⟨g, _, none⟩) gl).trans c1
      replace c2 := (hb0.cell (p := ⟨g, _, none⟩) gl).trans c2
      replace c3 := (hb0.cell (p := ⟨g, _, none⟩) gl).trans c3
      have cs : Hid (cellsL (L.take (k + 1)) = cellsL (L.take k) ++ itemC (L[k]'ck)) := by show _ = _; rw [List.take_succ_eq_append_getElem ck, cells_snoc]
      have wk := WF.out (L[k]'ck) (List.getElem_mem _)
      clear hb0 gl
      generalize L[k]'ck = x at *
      obtain ⟨x0, x1, x2, x3, x4⟩ := x
      simp only at c0 c1 c2 c3 wk
      by_cases p : x0 < 0
      · have HK2 := hideR (kept_later HK.out I.out.2.2)
        have HB := hideR I.out.2.2
        clear I cs WF HX
        go_wp2_with fail
        refine (live_any _ HK2.out).mono ?_
        rintro e3 w3 ⟨rfl, hb3⟩
        have hb := beyond HB.out hb3
        clear hb3
        go_wp2_with fail
        go_ret
        exact ⟨rfl, hb⟩
      · by_cases q : 3 < x0
        · have HK2 := hideR (kept_later HK.out I.out.2.2)
          have HB := hideR I.out.2.2
          clear I cs WF HX
          go_wp2_with fail
          refine (live_any _ HK2.out).mono ?_
          rintro e3 w3 ⟨rfl, hb3⟩
          have hb := beyond HB.out hb3
          clear hb3
          go_wp2_with fail
          go_ret
          exact ⟨rfl, hb⟩
        · have ew : IntKind.u8.wrap x0 = x0 := by simp only [IntKind.wrap_u8]; omega
          have bl := hideR (show k * 40 + 40 ≤ 140737488355328 by omega)
          have R1 := hideR I.out.1
          have B1 := hideR I.out.2.2
          have NB : Hid (some g ≠ v.ownBlock) := fun e => by
            have := (I.out.1.lt g e.symm).1
            have := HX.out.1
            omega
          have GL : Hid (g < wr.heap.size) := Nat.lt_of_lt_of_le HX.out.1 I.out.2.2.size
          have KC : Hid (∀ (O : Obj) (w2 : World) (p : Nat) (u : Value), wr.cell? ⟨g, p, none⟩ = some u → (wr.drew.alloc O).grownBy w2 v.ownBlock → w2.cell? ⟨g, p, none⟩ = some u) := fun O w2 p u hu hg =>
            hg.cell (a := ⟨g, p, none⟩) (((Below.alloc (Below.refl _ wr.drew) (Nat.le_refl _) O).cell (p := ⟨g, p, none⟩) GL.out).trans hu) NB.out
          clear I HK WF HX wk
          go_upto_region 7 with (fail)
          go_region_held3 (fun w' => w'.cell? ⟨g, o + k * 4, none⟩ = some (.int .i64 x0) ∧ w'.cell? ⟨g, o + k * 4 + 1, none⟩ = some (.string x1) ∧ w'.cell? ⟨g, o + k * 4 + 2, none⟩ = some (.int .i64 x2) ∧ w'.cell? ⟨g, o + k * 4 + 3, none⟩ = some (.int .i64 x3)) (go_keep)
            ((refine step_own rfl (.tmp 26) (.tmp 49) 35 rfl w.heap.size 24 i0 (.agg #[.int .u8 0, .string ⟨#[]⟩, .int .i64 0, .int .i64 0]) 4 40 Tryd.underlying35 hi hz0 hz1 hz2 rfl (by decide) v k (cellsL (L.take k)) (by simp [Act.eval]) (by first | exact (row_drew R1.out 1).alloc _ | exact R1.out.alloc _) ⟨wr.heap.size, 0, none⟩ 1 1 [.int .u8 x0, .string x1, .int .i64 x2, .int .i64 x3] (by simp [Act.eval]) rfl (by first | exact cell_four wr.drew _ _ _ _ _ | exact cell_four wr _ _ _ _ _) (by simp [Value.oneCell']) (by have := bl.out; unfold maxLen; omega) (by have := bl.out; omega) (by have := B1.out.size; simp; omega) ?_; intro v' w2 hown' hgrow; obtain ⟨gv, cw, rfl⟩ := ownsRow_succ hown'; have OW := hideR hown'; have GR := hideR hgrow; have D0 := KC.out _ _ _ _ c0 GR.out; have D1 := KC.out _ _ _ _ c1 GR.out; have D2 := KC.out _ _ _ _ c2 GR.out; have D3 := KC.out _ _ _ _ c3 GR.out; clear hown' hgrow))
          all_goals go_wp2_with fail
          have hbw : Below w.heap.size w w2 := ((below_drewN B1.out 1).alloc B1.out.size _).grown GR.out (by have := B1.out.size; simp; omega) (fun k e => (R1.out.lt k e).1)
          go_roundw
          case rel => exact ⟨_, k + 1, by omega, rfl, by go_num, by rw [cs.out]; exact ⟨OW.out, by simp, hbw⟩⟩
          case measure => simp [intOf]; omega
    · obtain rfl : k = L.length := by omega
      have k1 : ¬ (L.length : Int) < (L.length : Int) := by omega
      obtain ⟨hrow, hnil, hbw⟩ := I.out
      rw [List.take_length] at hrow
      have HK2 := hideR (kept_later HK.out hbw)
      have HB := hideR hbw
      have HX2 : Hid (RowO wr g o L) := ⟨Nat.lt_of_lt_of_le HX.out.1 hbw.size, fun k hk => ⟨(hbw.cell (p := ⟨g, _, none⟩) HX.out.1).trans (HX.out.2 k hk).1, (hbw.cell (p := ⟨g, _, none⟩) HX.out.1).trans (HX.out.2 k hk).2.1, (hbw.cell (p := ⟨g, _, none⟩) HX.out.1).trans (HX.out.2 k hk).2.2.1, (hbw.cell (p := ⟨g, _, none⟩) HX.out.1).trans (HX.out.2 k hk).2.2.2⟩⟩
      have JN := hideR (fun w => join_none none 0 w)
      clear I HK HX WF hbw
      by_cases z : L.length = 0
      · have l0 : L = [] := List.length_eq_zero_iff.1 z
        subst l0
        have hv := hnil.2 rfl
        subst hv
        have XJ := hideR (fun w => xjoin_none (some ⟨g, o, none⟩) cap w)
        clear hnil hrow z
        go_wp2_with fail
        refine (live_any _ HK2.out).mono ?_
        rintro e3 w3 ⟨rfl, hb3⟩
        have hb := beyond HB.out hb3
        clear hb3
        go_wp2_with fail
        refine (JN.out _).mono ?_
        rintro e4 w4 ⟨rfl, rfl⟩
        go_wp2_with fail
        refine (XJ.out _).mono ?_
        rintro e5 w5 ⟨rfl, rfl⟩
        go_wp2_with fail
        refine (JN.out _).mono ?_
        rintro e4 w4 ⟨rfl, rfl⟩
        go_wp2_with fail
        go_ret
        exact ⟨rfl, hb⟩
      · obtain ⟨n, hn⟩ : ∃ n, L.length = n + 1 := ⟨L.length - 1, by omega⟩
        have hrow' := hrow
        rw [hn] at hrow'
        obtain ⟨gv, cw, rfl⟩ := ownsRow_succ hrow'
        rw [← hn]
        have RL := hideR (rowL_of hrow)
        have J1 := hideR (fun w hr => join_some gv cw L w hr (by omega) (by omega))
        have J2 := hideR (fun w hr => xjoin_some g o cap L w hr (by omega) (by omega))
        clear hnil hrow hrow' hn
        go_wp2_with fail
        refine (live_any _ HK2.out).mono ?_
        rintro e3 w3 ⟨rfl, hb3⟩
        have RL2 := hideR (RL.out.later hb3)
        have HX3 := hideR (HX2.out.later hb3)
        have HB3 := hideR (beyond HB.out hb3)
        clear hb3 RL HX2 HB HK2
        go_wp2_with fail
        refine (J1.out _ RL2.out).mono ?_
        rintro e4 w4 ⟨rfl, hb4⟩
        have HX4 := hideR (HX3.out.later hb4)
        have HB4 := hideR (beyond HB3.out hb4)
        clear hb4 HX3 HB3
        go_wp2_with fail
        refine (J2.out _ HX4.out).mono ?_
        rintro e5 w5 ⟨rfl, rfl⟩
        go_wp2_with fail
        refine (JN.out _).mono ?_
        rintro e6 w6 ⟨rfl, rfl⟩
        go_wp2_with fail
        go_ret
        exact ⟨rfl, HB4.out⟩
set_option maxRecDepth 100000 in
set_option maxHeartbeats 1000000 in
theorem joins_none (ad : Option Addr) (cap : Nat) (w : World) (hk : Kept w) :
    Calls Tryd.prog 6 #[.slice ad 0 cap] w fun e w' => e = .returned (.bool true) ∧ Below w.heap.size w w' := by
  have HK2 := hideR hk
  have JN := hideR (fun w => join_none none 0 w)
  have XJ := hideR (fun w => xjoin_none ad cap w)
  clear hk
  go_enter Tryd.func6, Tryd.ntmps6
  go_wp2_with fail
  go_loopw [3, 4] (fun m i wr => m = .slice none 0 0 ∧ i = .int .i64 0 ∧ wr = w) (fun _ _ _ => 0)
  case atStart => exact ⟨rfl, rfl, rfl⟩
  case round =>
    obtain ⟨rfl, rfl, rfl⟩ := hrel
    go_wp2_with fail
    refine (live_any _ HK2.out).mono ?_
    rintro e3 w3 ⟨rfl, hb⟩
    go_wp2_with fail
    refine (JN.out _).mono ?_
    rintro e4 w4 ⟨rfl, rfl⟩
    go_wp2_with fail
    refine (XJ.out _).mono ?_
    rintro e5 w5 ⟨rfl, rfl⟩
    go_wp2_with fail
    refine (JN.out _).mono ?_
    rintro e4 w4 ⟨rfl, rfl⟩
    go_wp2_with fail
    go_ret
    exact ⟨rfl, hb⟩
end Go.Proofs.YtabjadbpllhgkaaDoor
