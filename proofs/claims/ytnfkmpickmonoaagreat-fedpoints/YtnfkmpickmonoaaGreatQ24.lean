/-
  fed.Minus, walked.
-/
import Derived.Test.YtnfkmpickmonoaaGreatQ23
namespace Go.Proofs.YtnfkmpickmonoaaGreat
open Go.RowKit Go.Shelf
set_option linter.unusedVariables false
set_option maxRecDepth 100000
attribute [local go_sem] Oper.semAt_some
def MinusOut (H n m : Nat) (s : List Row × Int) (e : Ending) (W' : World) : Prop :=
  (s.2 ≠ 0 ∧ e = .returned (.tuple #[.pointer none, .int .i64 s.2])) ∨ (s.2 = 0 ∧ ∃ fb zs, H ≤ fb ∧ e = .returned (.tuple #[.pointer (some ⟨fb, 0, none⟩), .int .i64 0]) ∧ FedAt W' fb n m zs ∧ zs.map (·.2) = s.1)
/-- What the first zones leave. -/
def mK (n m : Nat) (cs : List Row) (d : Row) (K : Nat) : List Row × Int := (cs.take K).foldl (fun s c => layL s (leftY n m c d)) ([], 0)
theorem mK_next {n m K : Nat} {cs : List Row} {d : Row} (h : K < cs.length) : mK n m cs d (K + 1) = layL (mK n m cs d K) (leftY n m cs[K] d) := by
  unfold mK
  have e : cs.take (K + 1) = cs.take K ++ [cs[K]] := by
    rw [List.take_add_one, List.getElem?_eq_getElem h]
    rfl
  rw [e, List.foldl_append]
  rfl
theorem mK_all {n m K : Nat} {cs : List Row} {d : Row} (h : K = cs.length) : mK n m cs d K = minusL n m cs d := by
  subst h
  simp [mK, minusL]
theorem mK_stop {n m K : Nat} {cs : List Row} {d : Row} (h : K ≤ cs.length) (hs : (mK n m cs d K).2 ≠ 0) : minusL n m cs d = mK n m cs d K := by
  have e : cs = cs.take K ++ cs.drop K := (List.take_append_drop K cs).symm
  unfold minusL
  rw [show cs.foldl (fun s c => layL s (leftY n m c d)) ([], 0) = (cs.take K ++ cs.drop K).foldl (fun s c => layL s (leftY n m c d)) ([], 0) by rw [← e], List.foldl_append]
  exact fold_stuck hs _
/-- What has come of what is told. -/
def IM (H r n m : Nat) (s0 : List Row) (Ds : List Nat) (top : Nat) (w : World) (ys : List YE) (W : World) : Prop := ∃ s, layL (s0, 0) (ys.map rowY) = (s, 0) ∧ MI H r n m s Ds top w W
def XM (H : Nat) (s0 : List Row) (Ds : List Nat) (top : Nat) (w : World) (c : Code) (ys : List YE) (W : World) : Prop := c = .ret ∧ ∃ s e, layL (s0, 0) (ys.map rowY) = (s, e) ∧ e ≠ 0 ∧ ME H e Ds top w W ∧ H ≤ W.heap.size
theorem im_own {H r n m B' : Nat} {s0 : List Row} {Ds : List Nat} {top : Nat} {w : World} (ht : top ≤ B') (hH : H ≤ top) : OwnFrom B' (IM H r n m s0 Ds top w) := fun ys X Y row hs hg hr => by
  obtain ⟨s, h1, h2⟩ := hs
  exact ⟨s, h1, h2.own hg hr ht (by omega) (Nat.le_trans hH h2.top)⟩
theorem xm_own {H B' : Nat} {s0 : List Row} {Ds : List Nat} {top : Nat} {w : World} (ht : top ≤ B') (hH : H ≤ top) (c : Code) : OwnFrom B' (XM H s0 Ds top w c) := fun ys X Y row hs hg hr => by
  obtain ⟨h0, s, e, h1, h2, h3, h4⟩ := hs
  exact ⟨h0, s, e, h1, h2, h3.own hg hr ht (by omega) h4, Nat.le_trans h4 hg.size⟩
theorem FedAt.store {A : World} {fb n m : Nat} {zs : List ZR} (h : FedAt A fb n m zs) (x : Nat) (u : Value) (h1 : fb ≠ x) (h2 : ∀ v, A.cell? ⟨fb, 1, none⟩ = some v → v.ownBlock ≠ some x) (h3 : ∀ e ∈ zs, e.1 ≠ x) : FedAt (A.setCell ⟨x, 0, none⟩ u) fb n m zs := by
  have s := SameC.store A x u
  have ne : some fb ≠ some x := fun e => h1 (by injection e)
  obtain ⟨v, hv, ho⟩ := h.c1
  exact ⟨s.cell h.c0 ne, ⟨v, s.cell hv ne, s.owns ho (fun y e => by cases e; exact h2 v hv)⟩, fun e he => ⟨s.zone (h.zones e he).1 (fun q => h3 e he (by injection q)), (h.zones e he).2⟩, h.len⟩
theorem boxed_nz {A : World} {b n : Nat} {c : Row} {t : TypeId} {v : Value} {B : Nat} (hb : Boxed A B t v) (hz : ZoneAt A b n c) : b ≠ B := fun e => by
  subst e
  have h := hz.cell 0 (by omega)
  unfold World.cell? at h
  rw [show A.heap[b]? = _ from hb] at h
  simp at h
theorem fed_done {H r n m : Nat} {s : List Row} {Ds : List Nat} {top : Nat} {w A : World} (h : MI H r n m s Ds top w A) {zs : List ZR} {v : Value} (hR : RowF A (H + 2) r n zs v) (he : zs.map (·.2) = s) (hz : ∀ e ∈ zs, ZoneAt A e.1 n e.2 ∧ ZC n m e.2 ∧ Safe r none A e.1 ∧ ¬ e.2 0 < 1) (hA : H + 2 ≤ A.heap.size) :
    FedAt (((A.alloc (.cells #[.int .i64 (n : Int), v] 67)).setCell ⟨H, 0, none⟩ (.pointer (some ⟨A.heap.size, 0, none⟩))).setCell ⟨H + 1, 0, none⟩ (.int .i64 0)) A.heap.size n m zs ∧
    Boxed (((A.alloc (.cells #[.int .i64 (n : Int), v] 67)).setCell ⟨H, 0, none⟩ (.pointer (some ⟨A.heap.size, 0, none⟩))).setCell ⟨H + 1, 0, none⟩ (.int .i64 0)) H 34 (.pointer (some ⟨A.heap.size, 0, none⟩)) ∧
    Boxed (((A.alloc (.cells #[.int .i64 (n : Int), v] 67)).setCell ⟨H, 0, none⟩ (.pointer (some ⟨A.heap.size, 0, none⟩))).setCell ⟨H + 1, 0, none⟩ (.int .i64 0)) (H + 1) 35 (.int .i64 0) ∧
    (∀ D ∈ Ds, H ≤ D ∧ (((A.alloc (.cells #[.int .i64 (n : Int), v] 67)).setCell ⟨H, 0, none⟩ (.pointer (some ⟨A.heap.size, 0, none⟩))).setCell ⟨H + 1, 0, none⟩ (.int .i64 0)).heap[D]? = some (.deferred (some []))) ∧
    Below H w (((A.alloc (.cells #[.int .i64 (n : Int), v] 67)).setCell ⟨H, 0, none⟩ (.pointer (some ⟨A.heap.size, 0, none⟩))).setCell ⟨H + 1, 0, none⟩ (.int .i64 0)) := by
  have b1 := below_one A (.cells #[.int .i64 (n : Int), v] 67)
  have s1 := SameC.below b1
  have M1 := h.past b1 (by omega)
  have c1 : (A.alloc (.cells #[.int .i64 (n : Int), v] 67)).cell? ⟨A.heap.size, 1, none⟩ = some v := by simp [go_sem]
  have own : ∀ x, v.ownBlock = some x → H + 2 ≤ x := fun x e => by
    rcases hR.own.2 with ⟨q, -⟩ | ⟨g, cap, cur, h1, h2, h3, h4⟩
    · rw [q] at e; cases e
    · rw [h1] at e
      injection e with e
      subst e
      exact h2
  have hl : zs.length = s.length := by rw [← he]; simp
  have F1 : FedAt (A.alloc (.cells #[.int .i64 (n : Int), v] 67)) A.heap.size n m zs := ⟨by simp [go_sem], ⟨v, c1, s1.owns ⟨hR.own.1, hR.own.2.imp id (fun ⟨g, cap, cur, h1, h2, h3⟩ => ⟨g, cap, cur, h1, Nat.zero_le _, h3⟩)⟩ (fun x e => by cases e)⟩, fun e he' => ⟨s1.zone (hz e he').1 (by simp), (hz e he').2.1, (hz e he').2.2.2⟩, by rw [hl]; exact h.len⟩
  have F2 := F1.store H (.pointer (some ⟨A.heap.size, 0, none⟩)) (by omega) (fun v' hv e => by rw [c1] at hv; cases hv; have := own _ e; omega) (fun e he' => boxed_nz M1.b4 (F1.zones e he').1)
  have x4 := M1.b4.set (.pointer (some ⟨A.heap.size, 0, none⟩))
  have x5 := M1.b5.other (B' := H) (by omega) (.pointer (some ⟨A.heap.size, 0, none⟩))
  have c2 : ((A.alloc (.cells #[.int .i64 (n : Int), v] 67)).setCell ⟨H, 0, none⟩ (.pointer (some ⟨A.heap.size, 0, none⟩))).cell? ⟨A.heap.size, 1, none⟩ = some v := (SameC.store _ H _).cell c1 (by intro e; injection e with e; omega)
  have F3 := F2.store (H + 1) (.int .i64 0) (by omega) (fun v' hv e => by rw [c2] at hv; cases hv; have := own _ e; omega) (fun e he' => boxed_nz x5 (F2.zones e he').1)
  refine ⟨F3, x4.other (by omega) _, x5.set _, fun D hD => ⟨(h.ds D hD).1, ?_⟩, (M1.below.setCell (p := ⟨H, 0, none⟩) (Nat.le_refl _) _).setCell (p := ⟨H + 1, 0, none⟩) (Nat.le_succ _) _⟩
  have hd := (M1.ds D hD).2.2
  have n4 : D ≠ H := fun q => by rw [q, show (A.alloc (.cells #[.int .i64 (n : Int), v] 67)).heap[H]? = _ from M1.b4] at hd; cases hd
  have n5 : D ≠ H + 1 := fun q => by rw [q, show (A.alloc (.cells #[.int .i64 (n : Int), v] 67)).heap[H + 1]? = _ from M1.b5] at hd; cases hd
  exact (Below.heap_setCell _ _ _ _ n5).trans ((Below.heap_setCell _ _ _ _ n4).trans hd)
/-- Where left's own box lies. -/
def StM (B r : Nat) (A : World) (b : Nat) : Prop := B ≤ b ∧ Safe r none A b ∧ ∃ p, A.cell? ⟨b, 0, none⟩ = some (.pointer p)
theorem layL_pre {s t : List Row × Int} {ps ys : List YS} (hp : ps <+: ys) (h : layL s ps = t) (ht : t.2 ≠ 0) : layL s ys = t := by
  obtain ⟨js, rfl⟩ := hp
  unfold layL at h ⊢
  rw [List.foldl_append, h]
  exact layL_stuck ht js
theorem lay_skip {s0 : List Row} {pre : List YE} {s : List Row} (z : ZR) (h : layL (s0, 0) (pre.map rowY) = (s, 0)) (hz : z.2 0 < 1) : layL (s0, 0) ((pre ++ [(some z, 0)]).map rowY) = (s, 0) := by
  rw [List.map_append, List.map_singleton, layL_snoc, h]
  simp [layS, rowY, hz]
theorem lay_full {s0 : List Row} {pre : List YE} {s : List Row} (z : ZR) (h : layL (s0, 0) (pre.map rowY) = (s, 0)) (hz : ¬ z.2 0 < 1) (hl : s.length = 4096) : layL (s0, 0) ((pre ++ [(some z, 0)]).map rowY) = (s, 3) := by
  rw [List.map_append, List.map_singleton, layL_snoc, h]
  simp only [layS, rowY, Option.map_some]
  simp [hz, hl]
theorem lay_more {s0 : List Row} {pre : List YE} {s : List Row} (z : ZR) (h : layL (s0, 0) (pre.map rowY) = (s, 0)) (hz : ¬ z.2 0 < 1) (hl : s.length ≠ 4096) : layL (s0, 0) ((pre ++ [(some z, 0)]).map rowY) = (s ++ [z.2], 0) := by
  rw [List.map_append, List.map_singleton, layL_snoc, h]
  simp only [layS, rowY, Option.map_some]
  simp [hz, hl]
theorem lay_err {s0 : List Row} {pre : List YE} {s : List Row} (x : YE) (h : layL (s0, 0) (pre.map rowY) = (s, 0)) (hx : x.2 ≠ 0) : layL (s0, 0) ((pre ++ [x]).map rowY) = (s, x.2) := by
  rw [List.map_append, List.map_singleton, layL_snoc, h]
  simp [layS, rowY, hx]
set_option maxHeartbeats 4000000 in
theorem fminus_any (fb zb n m : Nat) (zs : List ZR) (d : Row) (w : World) (hn : n ≤ 8) (hm : m = (n + 1) * (n + 1)) (hf : FedAt w fb n m zs) (hz : ZoneAt w zb n d) (zd : ZC n m d) :
    CallsIn Fence.wide 8 Tryz.prog 21 #[.pointer (some ⟨fb, 0, none⟩), .pointer (some ⟨zb, 0, none⟩)] w fun e W' => MinusOut w.heap.size n m (minusL n m (zs.map (·.2)) d) e W' ∧ Below w.heap.size w W' := by
  obtain ⟨v, c1, hown⟩ := hf.c1
  obtain ⟨q, hq⟩ : ∃ q, zs.length = q := ⟨_, rfl⟩
  obtain ⟨ad, cap, rfl⟩ := own_sl hown
  rw [hq] at c1
  have HF := hideD (fun W (h : Below w.heap.size w W) => fits_any fb zb n n d W (kc _ _ h hf.c0) (hz.past h))
  rw [show fitE n n = 0 by simp [fitE]] at HF
  have c0 := hf.c0
  have FD := hideD hf
  have HZ := hideD hz
  have HQ := hideD hq
  have HO := hideD hown
  have HN := hideD hn
  have HM := hideD hm
  have HZD := hideD zd
  have q4 : q ≤ 4096 := by rw [← hq]; exact hf.len
  have b4 := Boxed.new w 34 (.pointer none)
  have b5 := Boxed.new (w.alloc (.cells #[.pointer none] 34)) 35 (.int .i64 0)
  replace b4 := b4.alloc (.cells #[.int .i64 0] 35)
  simp only [World.size_alloc] at b5
  have B0 : Below w.heap.size w ((w.alloc (.cells #[.pointer none] 34)).alloc (.cells #[.int .i64 0] 35)) := ((Below.refl _ _).alloc (Nat.le_refl _) _).alloc (by simp) _
  have sz0 : ((w.alloc (.cells #[.pointer none] 34)).alloc (.cells #[.int .i64 0] 35)).heap.size = w.heap.size + 1 + 1 := by simp
  clear hf hz hq hown hn hm zd
  refine callsIn_of_wp_marks Tryz.func21 rfl trivial ?_ rfl
  simp only [Tryz.ntmps21, List.size_toArray, List.length_cons, List.length_nil, Nat.reduceAdd, Nat.reduceSub, Array.replicate_succ, Array.replicate_zero, List.push_toArray, List.append_toArray, List.nil_append, List.cons_append]
  gi_wp2
  generalize (w.alloc (.cells #[.pointer none] 34)).alloc (.cells #[.int .i64 0] 35) = W2 at *
  refine ⟨trivial, (callsIn_wide.2 (HF.out _ B0)).mono ?_⟩
  rintro e W3 ⟨rfl, hb⟩
  have b4 := boxed_past b4 hb
  have b5 := boxed_past b5 hb
  have B3 := B0.trans (hb.mono B0.size)
  have sz3 := hb.size
  have d0 := kc _ _ B3 c0
  have d1 := kc _ _ B3 c1
  clear hb B0 HF c0 c1
  have d2 := kc _ _ (below_one W3 (.cells #[.int .i64 (n : Int), .slice none 0 0] 65)) d1
  gi_wp2
  have sr : w.heap.size + 2 ≤ W3.heap.size := by omega
  have r0 : MI w.heap.size W3.heap.size n m [] [] (W3.heap.size + 1) w (W3.alloc (.cells #[.int .i64 (n : Int), .slice none 0 0] 65)) := by
    refine ⟨⟨[], .slice none 0 0, ⟨by simp [go_sem], by simp [go_sem], by simp [go_sem], World.ownsRow_nil _ _ _ _, by simp [Value.ownBlock]⟩, rfl, by simp⟩, b4.alloc _, b5.alloc _, by simp, by simp, B3.trans ((below_one W3 _).mono B3.size), by simp, sr⟩
  have HD0 := hideD d0
  clear d0 d1 d2 b4 b5
  have hW4 : W3.heap.size + 1 = (W3.alloc (.cells #[.int .i64 (n : Int), .slice none 0 0] 65)).heap.size := by simp
  generalize W3.alloc (.cells #[.int .i64 (n : Int), .slice none 0 0] 65) = W4 at *
  refine wpIn_loop (fun a W => ∃ (K : Nat) (Ds : List Nat) (u9 u31 u32 u33 u34 u35 u36 u45 : Value), (K ≤ q ∧ Ds.Nodup ∧ Hid (W3.heap.size + 1 ≤ W.heap.size ∧ (mK n m (zs.map (·.2)) d K).2 = 0 ∧ MI w.heap.size W3.heap.size n m (mK n m (zs.map (·.2)) d K).1 Ds W.heap.size w W)) ∧ a = { tmps := #[.pointer (some ⟨fb, 0, none⟩), .pointer (some ⟨zb, 0, none⟩), undef, undef, .pointer (some ⟨w.heap.size, 0, none⟩), .pointer (some ⟨w.heap.size + 1, 0, none⟩), .int .i64 0, .pointer (some ⟨W3.heap.size, 0, none⟩), undef, u9, undef, undef, .pointer (some ⟨fb, 0, none⟩), .pointer (some ⟨zb, 0, none⟩), .int .i64 0, .int .i64 0, .bool false, undef, .pointer (some ⟨fb, 0, none⟩), .pointer (some ⟨fb, 0, none⟩), .pointer (some ⟨fb, 0, none⟩), .pointer (some ⟨fb, 0, none⟩), .int .i64 (n : Int), .agg #[.int .i64 (n : Int), .slice none 0 0], .pointer (some ⟨fb, 0, none⟩), .pointer (some ⟨fb, 0, none⟩), .pointer (some ⟨fb, 0, none⟩), .pointer (some ⟨fb, 1, none⟩), .slice ad q cap, .int .i64 (q : Int), .int .i64 (K : Int), u31, u32, u33, u34, u35, u36, undef, undef, undef, undef, undef, undef, undef, undef, u45, undef, undef, undef], defers := Ds.map markD })
    (fun a _ => q - (intOf (a.tmps.getD 30 undef)).toNat) ⟨0, [], undef, undef, undef, undef, undef, undef, undef, undef, ⟨Nat.zero_le _, List.nodup_nil, by omega, rfl, r0.row, r0.b4, r0.b5, by simp, Nat.le_refl _, r0.below, by simp [mK], r0.hr⟩, rfl⟩ ?_
  clear r0 hW4 W4
  rintro a wr ⟨K, Ds, u9, u31, u32, u33, u34, u35, u36, u45, ⟨hK, hDs, HI⟩, rfl⟩
  by_cases ck : K < q
  · have ck' : (K : Int) < (q : Int) := by omega
    have hlz : K < zs.length := by have := HQ.out; omega
    obtain ⟨g, cap', e1, hcell⟩ := owns_elem HO.out (by intro e; rw [e] at hlz; cases hlz)
    injection e1 with e1 e2 e3
    subst e1
    clear e3
    obtain ⟨zk, ez⟩ : ∃ zk, zs[K] = zk := ⟨_, rfl⟩
    obtain ⟨zk, ck7⟩ := zk
    have hel := kc _ _ HI.out.2.2.below (hcell K hlz)
    rw [ez] at hel
    simp only [pvF] at hel
    have HZK := hideD (FD.out.zones _ (List.getElem_mem hlz))
    rw [ez] at HZK
    have EN : Hid (mK n m (zs.map (·.2)) d (K + 1) = layL (mK n m (zs.map (·.2)) d K) (leftY n m ck7 d)) := by
      have h := mK_next (n := n) (m := m) (d := d) (cs := zs.map (·.2)) (K := K) (by simpa using hlz)
      rw [List.getElem_map, ez] at h
      exact h
    clear hcell hlz ez
    gi_wp2
    refine ⟨trivial, (left_in _ zk zb _).mono ?_⟩
    rintro e w' ⟨rfl, rfl⟩
    gi_wp2
    have cz := boxed_past (Boxed.new wr 41 (.pointer (some ⟨zk, 0, none⟩))) (below_one (wr.alloc (.cells #[.pointer (some ⟨zk, 0, none⟩)] 41)) (.cells #[.pointer (some ⟨zb, 0, none⟩)] 41))
    have cy := Boxed.new (wr.alloc (.cells #[.pointer (some ⟨zk, 0, none⟩)] 41)) 41 (.pointer (some ⟨zb, 0, none⟩))
    simp only [World.size_alloc] at cy
    have b5 : Below wr.heap.size wr ((wr.alloc (.cells #[.pointer (some ⟨zk, 0, none⟩)] 41)).alloc (.cells #[.pointer (some ⟨zb, 0, none⟩)] 41)) := ((Below.refl _ _).alloc (Nat.le_refl _) _).alloc (by simp) _
    have sz5 : ((wr.alloc (.cells #[.pointer (some ⟨zk, 0, none⟩)] 41)).alloc (.cells #[.pointer (some ⟨zb, 0, none⟩)] 41)).heap.size = wr.heap.size + 2 := by simp
    generalize (wr.alloc (.cells #[.pointer (some ⟨zk, 0, none⟩)] 41)).alloc (.cells #[.pointer (some ⟨zb, 0, none⟩)] 41) = W5 at *
    have s4 := HI.out.1
    obtain ⟨s0, hs0⟩ : ∃ s0, (mK n m (zs.map (·.2)) d K).1 = s0 := ⟨_, rfl⟩
    have E0 : Hid (mK n m (zs.map (·.2)) d K = (s0, 0)) := by
      show _ = _
      exact Prod.ext hs0 HI.out.2.1
    have M5 := hideD (HI.out.2.2.past b5 (by omega))
    rw [hs0] at M5
    have BW5 := hideD (M5.out.below)
    have hzk := HZK.out
    have hlt := hzk.1.lt
    have hz5 := hzk.1.past BW5.out
    have hy5 := HZ.out.past BW5.out
    obtain ⟨zs5, v5, R5, -, -⟩ := M5.out.row
    have S5 := row_safe R5 (b := zk) (by omega) sr
    have O5 := row_ownlt R5
    clear hs0 HI R5 b5
    refine range_told (α := YE) rfl (by omega) (gf := 78) (lb := #[.pointer (some ⟨wr.heap.size, 0, none⟩), .pointer (some ⟨wr.heap.size + 1, 0, none⟩)]) (by simp [Act.eval, go_sem]) trivial (enters_of Tryz.func78 (by kernel_rfl) rfl)
      encY (fun _ => rfl) (TY n m W3.heap.size) (fun A B => KeepO w.heap.size W3.heap.size none A B ∧ KeepsFrom (W5.heap.size + 2) A B) (fun ys => ys.map rowY = leftY n m ck7 d) (fun p => p.map rowY <+: leftY n m ck7 d) (StM W5.heap.size W3.heap.size) (fun A b h => h.2.2.elim fun p hp => ⟨_, hp⟩) (fun x W l o o' h1 h2 h3 => ty_put x W l o o' h1 h2 h3)
      (fun l J Jx W hW hsz hJ hJx hSJ hY h0 => left1_in 7 (by omega) n m HN.out HM.out ck7 d hzk.2.1 HZD.out l wr.heap.size (wr.heap.size + 1) zk zb W3.heap.size w.heap.size (W5.heap.size + 2) J Jx
        (fun kd pre x W1 hj ht => YieldAt.depth kd (hY pre x W1 hj ht)) W (fun s A b u hj hb hs hp => hSJ s A b u hj ⟨by omega, hs, hp⟩) hJ hJx (by omega) (by omega) (boxed_past cz hW) (boxed_past cy hW) (hz5.past hW) (hy5.past hW) (S5.past hW) (O5.past hW) h0)
      (fun h k => ⟨h.1.trans k.1, h.2.trans k.2⟩) (fun W o o' h1 h2 => ⟨KeepO.put W _ o o' (by omega) h1 h2, keepsFrom_put (by omega)⟩)
      (IM w.heap.size W3.heap.size n m s0 Ds wr.heap.size w) (XM w.heap.size s0 Ds wr.heap.size w) (im_own (by omega) (by omega)) (xm_own (by omega) (by omega)) ⟨s0, rfl, M5.out⟩
      (fun s A b u hs hb => by
        obtain ⟨s', h1, h2⟩ := hs
        exact ⟨s', h1, h2.store b u hb.2.1 hb.2.2 (by have := hb.1; omega) (by have := hb.1; omega)⟩)
      (fun x => { tmps := #[.pointer (some ⟨fb, 0, none⟩), .pointer (some ⟨zb, 0, none⟩), undef, undef, .pointer (some ⟨w.heap.size, 0, none⟩), .pointer (some ⟨w.heap.size + 1, 0, none⟩), .int .i64 0, .pointer (some ⟨W3.heap.size, 0, none⟩), undef, .pointer (some ⟨zk, 0, none⟩), .pointer (x.1.map fun z => ⟨z.1, 0, none⟩), .int .i64 x.2, .pointer (some ⟨fb, 0, none⟩), .pointer (some ⟨zb, 0, none⟩), .int .i64 0, .int .i64 0, .bool false, undef, .pointer (some ⟨fb, 0, none⟩), .pointer (some ⟨fb, 0, none⟩), .pointer (some ⟨fb, 0, none⟩), .pointer (some ⟨fb, 0, none⟩), .int .i64 (n : Int), .agg #[.int .i64 (n : Int), .slice none 0 0], .pointer (some ⟨fb, 0, none⟩), .pointer (some ⟨fb, 0, none⟩), .pointer (some ⟨fb, 0, none⟩), .pointer (some ⟨fb, 1, none⟩), .slice (some ⟨g, 0, none⟩) q cap, .int .i64 (q : Int), .int .i64 (K : Int), .bool true, .pointer (some ⟨g, K, none⟩), .pointer (some ⟨zk, 0, none⟩), .pointer (some ⟨zk, 0, none⟩), .pointer (some ⟨zb, 0, none⟩), .func (.func 78) #[] #[.pointer (some ⟨wr.heap.size, 0, none⟩), .pointer (some ⟨wr.heap.size + 1, 0, none⟩)], .pointer (x.1.map fun z => ⟨z.1, 0, none⟩), .int .i64 x.2, undef, undef, undef, undef, undef, undef, u45, undef, undef, undef], defers := [] })
      ?assign ?body ?done ?stop
    case assign =>
      rintro l x W KK hKK
      simp only [encY]
      gi_wp2
      exact hKK
    case body =>
      rintro l pre x W hl ⟨s, hs, hM⟩ hT
      obtain ⟨xo, xe⟩ := x
      clear hz5 hy5 S5 O5 cz cy
      have hH : w.heap.size + 2 ≤ W.heap.size := by have := hM.top; omega
      have hTop := hM.top
      by_cases ce : xe = 0
      · subst ce
        cases xo with
        | none => exact absurd rfl (hT.1 rfl)
        | some z =>
          obtain ⟨z1, z2, z3, z4⟩ := hT.2 z rfl
          obtain ⟨zs', v', hR, he, hz⟩ := hM.row
          have hl' : zs'.length ≤ 4096 := by have := hM.len; rw [← he] at this; simpa using this
          have HA := hideD (fadd_any (w.heap.size + 2) W3.heap.size n z.1 z.2 zs' v' W HN.out z1 hR hl' hH)
          have FS : Hid (∀ W7, z.2 0 < 1 → Below W.heap.size W W7 → KeepsFrom W5.heap.size W W7 ∧ (KeepO w.heap.size W3.heap.size none W W7 ∧ KeepsFrom (W5.heap.size + 2) W W7) ∧ IM w.heap.size W3.heap.size n m s0 Ds wr.heap.size w (pre ++ [(some z, 0)]) W7) := fun W7 h1 hb =>
            ⟨keepsFrom_below hb, ⟨KeepO.of hb (by omega), keepsFrom_below hb⟩, s, lay_skip z hs h1, hM.past hb (by omega)⟩
          have FM : Hid (∀ W7 v2, ¬ z.2 0 < 1 → zs'.length ≠ 4096 → RowF W7 (w.heap.size + 2) W3.heap.size n (zs' ++ [(z.1, z.2)]) v2 → Grew W3.heap.size v' v2 W W7 → KeepsFrom W5.heap.size W W7 ∧ (KeepO w.heap.size W3.heap.size none W W7 ∧ KeepsFrom (W5.heap.size + 2) W W7) ∧ IM w.heap.size W3.heap.size n m s0 Ds wr.heap.size w (pre ++ [(some z, 0)]) W7) := fun W7 v2 h1 h2 h3 h4 => by
            obtain ⟨a1, a2, a3⟩ := hM.more hR he hz z1 z3 z4 h1 h2 h3 h4 hH W5.heap.size
            exact ⟨a3, ⟨a2, keepsFrom_up a3 (by omega)⟩, _, lay_more z hs h1 (by rw [← he]; simpa using h2), a1⟩
          have FE : Hid (∀ W7, ¬ z.2 0 < 1 → zs'.length = 4096 → Below W.heap.size W W7 → (Boxed W7 w.heap.size 34 (.pointer none) ∧ Boxed W7 (w.heap.size + 1) 35 (.int .i64 0)) ∧ KeepsFrom W5.heap.size W ((W7.setCell ⟨w.heap.size, 0, none⟩ (.pointer none)).setCell ⟨w.heap.size + 1, 0, none⟩ (.int .i64 3)) ∧ XM w.heap.size s0 Ds wr.heap.size w .ret (pre ++ [(some z, 0)]) ((W7.setCell ⟨w.heap.size, 0, none⟩ (.pointer none)).setCell ⟨w.heap.size + 1, 0, none⟩ (.int .i64 3))) := fun W7 h1 h2 hb => by
            have M7 := hM.past hb (by omega)
            exact ⟨⟨M7.b4, M7.b5⟩, (keepsFrom_below hb).trans (((KeepsOthers.setCell W7 _ _).trans (KeepsOthers.setCell _ _ _)).from _), rfl, s, 3, lay_full z hs h1 (by rw [← he]; simpa using h2), by decide, M7.err 3, by have := hb.size; simp [World.setCell]; omega⟩
          clear hs hM hT z1 z2 z3 z4 hR he hz hl'
          obtain ⟨zb7, zc7⟩ := z
          simp only at HA FS FM FE
          simp only [Option.map_some]
          gi_wp2
          refine ⟨trivial, CallsIn.inRound l ((callsIn_wide.2 HA.out).mono ?_)⟩
          rintro e W7 h
          rcases h with ⟨h1, rfl, hb⟩ | ⟨h1, h2, rfl, hb⟩ | ⟨h1, h2, rfl, v2, hR2, hG⟩
          · have F := hideD (FS.out W7 h1 hb)
            clear FS FM FE h1 hb
            gi_wp2
            exact F.out
          · have F := hideD (FE.out W7 (by omega) h2 hb)
            have g1 := F.out.1.1.cell
            have g2 := F.out.1.1.frozen
            have g3 := F.out.1.2.cell
            have g4 := F.out.1.2.frozen
            clear FS FM FE h1 h2 hb
            gi_wp2
            exact F.out.2
          · have F := hideD (FM.out W7 v2 (by omega) h2 hR2 hG)
            clear FS FM FE h1 h2 hR2 hG
            gi_wp2
            exact F.out
      · have F : Hid ((Boxed W w.heap.size 34 (.pointer none) ∧ Boxed W (w.heap.size + 1) 35 (.int .i64 0)) ∧ KeepsFrom W5.heap.size W ((W.setCell ⟨w.heap.size, 0, none⟩ (.pointer none)).setCell ⟨w.heap.size + 1, 0, none⟩ (.int .i64 xe)) ∧ XM w.heap.size s0 Ds wr.heap.size w .ret (pre ++ [(xo, xe)]) ((W.setCell ⟨w.heap.size, 0, none⟩ (.pointer none)).setCell ⟨w.heap.size + 1, 0, none⟩ (.int .i64 xe))) :=
          ⟨⟨hM.b4, hM.b5⟩, ((KeepsOthers.setCell W _ _).trans (KeepsOthers.setCell _ _ _)).from _, rfl, s, xe, lay_err (xo, xe) hs ce, ce, hM.err xe, by simp [World.setCell]; omega⟩
        have ce' : (xe == 0) = false := by simpa using ce
        have g1 := F.out.1.1.cell
        have g2 := F.out.1.1.frozen
        have g3 := F.out.1.2.cell
        have g4 := F.out.1.2.frozen
        clear hs hM hT
        generalize xo.map (fun z => (⟨z.1, 0, none⟩ : Addr)) = xp at *
        gi_wp2
        exact F.out.2
    case done =>
      rintro D ys W hD hS ⟨s, hs, hM⟩ hK
      have hH : w.heap.size + 2 ≤ W.heap.size := by have := hM.top; omega
      have EM : Hid (mK n m (zs.map (·.2)) d (K + 1) = (s, 0)) := by
        show _ = _
        rw [EN.out, E0.out, ← hS]
        exact hs
      have HMM := hideD hM
      have HK := hideD hK
      have nd : D ∉ Ds := fun h => by have := (HMM.out.ds D h).2.1; omega
      clear hz5 hy5 S5 O5 cz cy hs hM hS hK
      gi_wp2
      refine ⟨⟨K + 1, D :: Ds, _, _, _, _, _, _, _, _, ⟨by omega, List.nodup_cons.2 ⟨nd, hDs⟩, by have := HMM.out.top; omega, by rw [EM.out], ?_⟩, rfl⟩, ?_⟩
      · rw [EM.out]
        have h := HMM.out
        exact ⟨h.row, h.b4, h.b5, fun D' hD' => by
          rcases List.mem_cons.1 hD' with rfl | q
          · exact ⟨by omega, lt_of HK.out, HK.out⟩
          · have := h.ds D' q
            have := h.top
            exact ⟨this |> fun _ => (h.ds D' q).1, by omega, (h.ds D' q).2.2⟩, Nat.le_refl _, h.below, h.len, h.hr⟩
      · simp [intOf]
        omega
    case stop =>
      rintro D cd pre W hD hpre ⟨rfl, s, e, h1, h2, hE, hw⟩ hK
      have EM : Hid (minusL n m (zs.map (·.2)) d = (s, e)) := by
        have e1 : mK n m (zs.map (·.2)) d (K + 1) = (s, e) := by
          rw [EN.out, E0.out]
          exact layL_pre hpre h1 h2
        have e2 := mK_stop (n := n) (m := m) (d := d) (cs := zs.map (·.2)) (K := K + 1) (by have := HQ.out; rw [List.length_map]; omega) (by rw [e1]; exact h2)
        exact e2.trans e1
      have HE := hideD hE
      have H2 := hideD h2
      have HK := hideD hK
      have nd : (D :: Ds).Nodup := List.nodup_cons.2 ⟨fun h => by have := (HE.out.ds D h).2.1; omega, hDs⟩
      clear hz5 hy5 S5 O5 cz cy h1 hE hK h2
      gi_wp2
      refine leaves_marks7 w.heap.size (D :: Ds) W nd (fun D' hD' => ?_) (fun w' hw' => ?_)
      · rcases List.mem_cons.1 hD' with rfl | q
        · exact ⟨by omega, HK.out⟩
        · exact ⟨(HE.out.ds D' q).1, (HE.out.ds D' q).2.2⟩
      · have y4 := (hw'.1.boxed HE.out.b4 (by simp)).cell
        have y5 := (hw'.1.boxed HE.out.b5 (by simp)).cell
        refine ⟨.tuple #[.pointer none, .int .i64 e], by simp [results, Tryz.results21, go_sem, y4, y5], .inl ?_, HE.out.below.trans hw'.2⟩
        rw [EM.out]
        exact ⟨H2.out, rfl⟩
  · have eK : K = q := by omega
    have ck' : ¬ (K : Int) < (q : Int) := by omega
    obtain ⟨s0, hs0⟩ : ∃ s0, (mK n m (zs.map (·.2)) d K).1 = s0 := ⟨_, rfl⟩
    have EM : Hid (minusL n m (zs.map (·.2)) d = (s0, 0)) := by
      have e := mK_all (n := n) (m := m) (d := d) (cs := zs.map (·.2)) (K := K) (by rw [List.length_map, HQ.out]; exact eK)
      show _ = _
      rw [← e]
      exact Prod.ext hs0 HI.out.2.1
    have M := HI.out.2.2
    rw [hs0] at M
    obtain ⟨zs', v', hR, he, hz⟩ := M.row
    have hwr := HI.out.1
    have FD' := hideD (fed_done M hR he hz (by omega))
    have HE := hideD he
    have r0 := hR.c0
    have r1 := hR.c1
    have M1 := M.past (below_one wr (.cells #[.int .i64 (n : Int), v'] 67)) (by omega)
    have g1 := M1.b4.cell
    have g2 := M1.b4.frozen
    have g3 := M1.b5.cell
    have g4 := M1.b5.frozen
    clear HI M hR he hz M1 eK hs0
    gi_wp2
    refine leaves_marks7 w.heap.size Ds _ hDs (fun D' hD' => FD'.out.2.2.2.1 D' hD') (fun w' hw' => ?_)
    have y4 := (hw'.1.boxed FD'.out.2.1 (by simp)).cell
    have y5 := (hw'.1.boxed FD'.out.2.2.1 (by simp)).cell
    refine ⟨.tuple #[.pointer (some ⟨wr.heap.size, 0, none⟩), .int .i64 0], by simp [results, Tryz.results21, go_sem, y4, y5], .inr ?_, FD'.out.2.2.2.2.trans hw'.2⟩
    rw [EM.out]
    exact ⟨rfl, wr.heap.size, zs', by omega, rfl, FD'.out.1.same hw'.1, HE.out⟩
end Go.Proofs.YtnfkmpickmonoaaGreat
