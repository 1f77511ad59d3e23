/-
  fed.Minus: its parts.
-/
import Derived.Test.YtnfkmpickmonoaaGreatQ22
namespace Go.Proofs.YtnfkmpickmonoaaGreat
open Go.RowKit Go.Shelf
set_option linter.unusedVariables false
set_option maxRecDepth 100000
attribute [local go_sem] Oper.semAt_some
theorem left_in (k bz by_ : Nat) (w : World) : CallsIn Fence.wide k Tryz.prog 54 #[.pointer (some ⟨bz, 0, none⟩), .pointer (some ⟨by_, 0, none⟩)] w fun e w' => e = .returned (.func (.func 78) #[] #[.pointer (some ⟨w.heap.size, 0, none⟩), .pointer (some ⟨w.heap.size + 1, 0, none⟩)]) ∧ w' = (w.alloc (.cells #[.pointer (some ⟨bz, 0, none⟩)] 41)).alloc (.cells #[.pointer (some ⟨by_, 0, none⟩)] 41) := by
  refine callsIn_wide.2 ?_
  go_enter Tryz.func54, Tryz.ntmps54
  go_wp2
  go_ret
  exact ⟨rfl, rfl⟩
/-! ### What is laid -/
/-- One more that is told. -/
def layS (s : List Row × Int) (y : YS) : List Row × Int :=
  if s.2 ≠ 0 then s else if y.2 ≠ 0 then (s.1, y.2) else match y.1 with
    | none => s
    | some c => if c 0 < 1 then s else if s.1.length = 4096 then (s.1, 3) else (s.1 ++ [c], 0)
def layL (s : List Row × Int) (ys : List YS) : List Row × Int := ys.foldl layS s
theorem layL_stuck {s : List Row × Int} (h : s.2 ≠ 0) (ys : List YS) : layL s ys = s := by
  induction ys with
  | nil => rfl
  | cons y ys ih =>
    show layL (layS s y) ys = s
    have : layS s y = s := by unfold layS; rw [if_pos h]
    rw [this, ih]
theorem layL_snoc (s : List Row × Int) (ys : List YS) (y : YS) : layL s (ys ++ [y]) = layS (layL s ys) y := by simp [layL]
/-- What is left of a row without a zone: the rows, and an error. -/
def minusL (n m : Nat) (cs : List Row) (d : Row) : List Row × Int := cs.foldl (fun s c => layL s (leftY n m c d)) ([], 0)
theorem fold_stuck {n m : Nat} {d : Row} {s : List Row × Int} (h : s.2 ≠ 0) (cs : List Row) : cs.foldl (fun s c => layL s (leftY n m c d)) s = s := by
  induction cs with
  | nil => rfl
  | cons c cs ih => rw [List.foldl_cons, layL_stuck h, ih]
/-! ### What lies in memory -/
/-- All blocks of cells stay, but one. -/
structure SameC (X : Option Nat) (A B : World) : Prop where
  size : A.heap.size ≤ B.heap.size
  block : ∀ (b : Nat) (o : Obj), A.heap[b]? = some o → o.isCells = true → some b ≠ X → B.heap[b]? = some o
theorem SameC.below {A B : World} (h : Below A.heap.size A B) : SameC none A B := ⟨h.size, fun b o hb _ _ => (h.block b (lt_of hb)).trans hb⟩
theorem SameC.own {A B : World} {row : Option Nat} (hg : A.grownBy B row) (hr : ∀ q, row = some q → ∃ o : Obj, A.heap[q]? = some o ∧ o.isCells = false) : SameC none A B :=
  ⟨hg.size, fun b o hb ho _ => (hg.block b (lt_of hb) (fun q => by
    obtain ⟨o', h, hc⟩ := hr b q.symm
    rw [hb] at h
    injection h with h
    rw [h] at ho
    rw [ho] at hc
    cases hc)).trans hb⟩
theorem SameC.store (A : World) (x : Nat) (u : Value) : SameC (some x) A (A.setCell ⟨x, 0, none⟩ u) :=
  ⟨by simp [World.setCell], fun b o hb _ ne => (Below.heap_setCell _ _ _ _ (fun e => ne (by rw [e]))).trans hb⟩
theorem SameC.cell {X : Option Nat} {A B : World} (h : SameC X A B) {b k : Nat} {v : Value} (hc : A.cell? ⟨b, k, none⟩ = some v) (hx : some b ≠ X) : B.cell? ⟨b, k, none⟩ = some v := by
  obtain ⟨o, ho, hi⟩ := cells_of_cell hc
  rw [World.cell?_of_block (w := A) (a := ⟨b, k, none⟩) ((h.block b o ho hi hx).trans ho.symm)]
  exact hc
theorem SameC.frozen {X : Option Nat} {A B : World} (h : SameC X A B) {b k : Nat} {v : Value} (hc : A.cell? ⟨b, k, none⟩ = some v) (hf : A.frozen? ⟨b, k, none⟩ = false) (hx : some b ≠ X) : B.frozen? ⟨b, k, none⟩ = false := by
  obtain ⟨o, ho, hi⟩ := cells_of_cell hc
  rw [World.frozen?_of_block (w := A) (a := ⟨b, k, none⟩) ((h.block b o ho hi hx).trans ho.symm)]
  exact hf
theorem SameC.zone {X : Option Nat} {A B : World} (h : SameC X A B) {b n : Nat} {c : Row} (hz : ZoneAt A b n c) (hx : some b ≠ X) : ZoneAt B b n c := by
  obtain ⟨o, ho, hi⟩ := cells_of_cell hz.clocks
  have e : B.heap[b]? = A.heap[b]? := (h.block b o ho hi hx).trans ho.symm
  exact ⟨h.cell hz.clocks hx, fun k hk => h.cell (hz.cell k hk) hx, fun k hk => by rw [World.frozen?_of_block (w := A) (a := ⟨b, 1 + k, none⟩) e]; exact hz.free k hk⟩
theorem SameC.safe {X : Option Nat} {A B : World} (h : SameC X A B) {r b : Nat} (hs : Safe r none A b) (hr : some r ≠ X) : Safe r none B b := by
  obtain ⟨s1, s2, v, hv, s3⟩ := hs
  exact ⟨s1, s2, v, h.cell hv hr, s3⟩
theorem SameC.boxed {X : Option Nat} {A B : World} (h : SameC X A B) {b : Nat} {t : TypeId} {v : Value} (hb : Boxed A b t v) (hx : some b ≠ X) : Boxed B b t v := h.block b _ hb rfl hx
theorem SameC.row {X : Option Nat} {A B : World} (h : SameC X A B) {base r n : Nat} {zs : List ZR} {v : Value} (hR : RowF A base r n zs v) (hr : some r ≠ X) (hv : ∀ x, X = some x → v.ownBlock ≠ some x) : RowF B base r n zs v := by
  refine ⟨h.cell hR.c0 hr, h.cell hR.c1 hr, h.frozen hR.c1 hR.fr hr, ⟨hR.own.1, ?_⟩, hR.ne⟩
  rcases hR.own.2 with q | ⟨g, cap, cur, h1, h2, h3, h4⟩
  · exact .inl q
  · refine .inr ⟨g, cap, cur, h1, h2, h.block g _ h3 rfl (fun e => ?_), h4⟩
    exact hv g e.symm (by rw [h1]; rfl)
theorem row_ownlt {w : World} {base r n : Nat} {zs : List ZR} {v : Value} (h : RowF w base r n zs v) : OwnLt r w := ⟨v, h.c1, fun b e => by
  rcases h.own.2 with ⟨q, -⟩ | ⟨g, cap, cur, h1, h2, h3, h4⟩
  · rw [q] at e; cases e
  · rw [h1] at e
    injection e with e
    subst e
    exact lt_of h3⟩
theorem row_safe {w : World} {base r n : Nat} {zs : List ZR} {v : Value} (h : RowF w base r n zs v) {b : Nat} (hb : b < base) (hr : base ≤ r) : Safe r none w b := ⟨by omega, fun e => (by cases e), v, h.c1, fun e => by
  rcases h.own.2 with ⟨q, -⟩ | ⟨g, cap, cur, h1, h2, h3, h4⟩
  · rw [q] at e; cases e
  · rw [h1] at e
    injection e with e
    simp only at e
    omega⟩
structure MI (H r n m : Nat) (s : List Row) (Ds : List Nat) (top : Nat) (w W : World) : Prop where
  row : ∃ zs v, RowF W (H + 2) r n zs v ∧ zs.map (·.2) = s ∧ ∀ e ∈ zs, ZoneAt W e.1 n e.2 ∧ ZC n m e.2 ∧ Safe r none W e.1 ∧ ¬ e.2 0 < 1
  b4 : Boxed W H 34 (.pointer none)
  b5 : Boxed W (H + 1) 35 (.int .i64 0)
  ds : ∀ D ∈ Ds, H ≤ D ∧ D < top ∧ W.heap[D]? = some (.deferred (some []))
  top : top ≤ W.heap.size
  below : Below H w W
  len : s.length ≤ 4096
  hr : H + 2 ≤ r
theorem MI.same {H r n m : Nat} {s : List Row} {Ds : List Nat} {top : Nat} {w A B : World} {X : Option Nat} (h : MI H r n m s Ds top w A) (hs : SameC X A B) (hX : ∀ x, X = some x → Safe r none A x ∧ (∃ p, A.cell? ⟨x, 0, none⟩ = some (.pointer p)) ∧ H + 2 ≤ x)
    (hds : ∀ D ∈ Ds, B.heap[D]? = A.heap[D]?) (hb : Below H w B) : MI H r n m s Ds top w B := by
  obtain ⟨zs, v, hR, e, hz⟩ := h.row
  have hr : some r ≠ X := fun q => (hX r q.symm).1.1 rfl
  refine ⟨⟨zs, v, hs.row hR hr (fun x q e' => ?_), e, fun z hz' => ?_⟩, hs.boxed h.b4 (fun q => ?_), hs.boxed h.b5 (fun q => ?_), fun D hD => ⟨(h.ds D hD).1, (h.ds D hD).2.1, (hds D hD).trans (h.ds D hD).2.2⟩, Nat.le_trans h.top hs.size, hb, h.len, h.hr⟩
  · obtain ⟨v', hv', hne⟩ := (hX x q).1.2.2
    rw [hR.c1] at hv'
    cases hv'
    exact hne e'
  · obtain ⟨z1, z2, z3, z4⟩ := hz z hz'
    refine ⟨hs.zone z1 (fun q => ?_), z2, hs.safe z3 hr, z4⟩
    obtain ⟨p, hp⟩ := (hX _ q.symm).2.1
    rw [z1.clocks] at hp
    cases hp
  · have := (hX _ q.symm).2.2
    omega
  · have := (hX _ q.symm).2.2
    omega
theorem MI.past {H r n m : Nat} {s : List Row} {Ds : List Nat} {top : Nat} {w A B : World} (h : MI H r n m s Ds top w A) (hb : Below A.heap.size A B) (hH : H ≤ A.heap.size) : MI H r n m s Ds top w B :=
  h.same (SameC.below hb) (fun x e => by cases e) (fun D hD => hb.block D (lt_of (h.ds D hD).2.2)) (h.below.trans (hb.mono hH))
theorem MI.own {H r n m : Nat} {s : List Row} {Ds : List Nat} {top B' : Nat} {w A B : World} {row : Option Nat} (h : MI H r n m s Ds top w A) (hg : A.grownBy B row) (hr : ∀ q, row = some q → B' ≤ q ∧ ∃ o : Obj, A.heap[q]? = some o ∧ o.isCells = false) (ht : top ≤ B') (hH : H ≤ B') (hw : H ≤ A.heap.size) : MI H r n m s Ds top w B :=
  h.same (SameC.own hg (fun q e => (hr q e).2)) (fun x e => by cases e) (fun D hD => hg.block D (lt_of (h.ds D hD).2.2) (fun e => by have := (hr D e.symm).1; have := (h.ds D hD).2.1; omega)) (h.below.trans ⟨hg.os, hg.tape, hg.output, hg.size, fun k hk => hg.block k (by omega) (fun e => by have := (hr k e.symm).1; omega)⟩)
theorem MI.store {H r n m : Nat} {s : List Row} {Ds : List Nat} {top : Nat} {w A : World} (h : MI H r n m s Ds top w A) (b : Nat) (u : Value) (hs : Safe r none A b) (hp : ∃ p, A.cell? ⟨b, 0, none⟩ = some (.pointer p)) (hb : H + 2 ≤ b) (ht : top ≤ b) : MI H r n m s Ds top w (A.setCell ⟨b, 0, none⟩ u) :=
  h.same (SameC.store A b u) (fun x e => by cases e; exact ⟨hs, hp, hb⟩) (fun D hD => Below.heap_setCell _ _ _ _ (fun e => by have := (h.ds D hD).2.1; simp only at e; omega)) (h.below.setCell (p := ⟨b, 0, none⟩) (by show H ≤ b; omega) u)
/-- A row that has grown. -/
theorem MI.more {H r n m b : Nat} {c : Row} {zs : List ZR} {v v2 : Value} {s : List Row} {Ds : List Nat} {top : Nat} {w A B : World} (h : MI H r n m s Ds top w A) (hR : RowF A (H + 2) r n zs v) (he : zs.map (·.2) = s) (hz : ∀ e ∈ zs, ZoneAt A e.1 n e.2 ∧ ZC n m e.2 ∧ Safe r none A e.1 ∧ ¬ e.2 0 < 1)
    (z1 : ZoneAt A b n c) (z2 : ZC n m c) (z3 : Safe r none A b) (z4 : ¬ c 0 < 1) (hl : zs.length ≠ 4096) (hR2 : RowF B (H + 2) r n (zs ++ [(b, c)]) v2) (hG : Grew r v v2 A B) (hA : H + 2 ≤ A.heap.size) (F : Nat) :
    MI H r n m (s ++ [c]) Ds top w B ∧ KeepO H r none A B ∧ KeepsFrom F A B := by
  have own : ∀ k, v.ownBlock = some k → H + 2 ≤ k ∧ ∃ o, A.heap[k]? = some o ∧ o.isCells = true := fun k e => by
    rcases hR.own.2 with ⟨q, -⟩ | ⟨g, cap, cur, h1, h2, h3, h4⟩
    · rw [q] at e; cases e
    · rw [h1] at e
      injection e with e
      subst e
      exact ⟨h2, _, h3, rfl⟩
  obtain ⟨vl, hvl, lt⟩ := row_ownlt hR2
  rw [hR2.c1] at hvl
  cases hvl
  have hb : Below H A B := hG.below (by have := h.hr; omega) (fun k e => by have := (own k e).1; omega) (by omega)
  have kO : KeepO H r none A B := KeepO.grew hG hR.c1 hR2.c1 lt hb
  have rc := cells_of_cell hR.c1
  have ne : ∀ (k : Nat) (o : Obj), A.heap[k]? = some o → o.isCells = false → B.heap[k]? = some o := fun k o hk ho => (hG.block k (lt_of hk) (fun e => by
      subst e
      obtain ⟨o', h1, h2⟩ := rc
      rw [hk] at h1
      injection h1 with h1
      rw [h1] at ho
      rw [ho] at h2
      cases h2) (fun e => by
      obtain ⟨-, o', h1, h2⟩ := own k e
      rw [hk] at h1
      injection h1 with h1
      rw [h1] at ho
      rw [ho] at h2
      cases h2)).trans hk
  have s4 := row_safe hR (b := H) (by omega) h.hr
  have s5 := row_safe hR (b := H + 1) (by omega) h.hr
  have hlen : s.length = zs.length := by rw [← he]; simp
  refine ⟨⟨⟨_, v2, hR2, by simp [he], fun e he' => ?_⟩, kO.block s4 h.b4 rfl, kO.block s5 h.b5 rfl, fun D hD => ⟨(h.ds D hD).1, (h.ds D hD).2.1, ne D _ (h.ds D hD).2.2 rfl⟩, Nat.le_trans h.top hG.size, h.below.trans hb, by have := h.len; rw [List.length_append, List.length_singleton]; omega, h.hr⟩, kO, ⟨hG.size, fun k o _ hk ho => ne k o hk ho⟩⟩
  rcases List.mem_append.1 he' with q | q
  · obtain ⟨a1, a2, a3, a4⟩ := hz e q
    exact ⟨a1.safe kO a3, a2, a3.keep kO a1.lt, a4⟩
  · rw [List.mem_singleton.1 q]
    exact ⟨z1.safe kO z3, z2, z3.keep kO z1.lt, z4⟩
/-- What lies there when it is left by an error. -/
structure ME (H : Nat) (e : Int) (Ds : List Nat) (top : Nat) (w W : World) : Prop where
  b4 : Boxed W H 34 (.pointer none)
  b5 : Boxed W (H + 1) 35 (.int .i64 e)
  ds : ∀ D ∈ Ds, H ≤ D ∧ D < top ∧ W.heap[D]? = some (.deferred (some []))
  below : Below H w W
theorem MI.err {H r n m : Nat} {s : List Row} {Ds : List Nat} {top : Nat} {w A : World} (h : MI H r n m s Ds top w A) (e : Int) : ME H e Ds top w ((A.setCell ⟨H, 0, none⟩ (.pointer none)).setCell ⟨H + 1, 0, none⟩ (.int .i64 e)) := by
  refine ⟨(h.b4.set _).other (by omega) _, (h.b5.other (by omega) _).set _, fun D hD => ⟨(h.ds D hD).1, (h.ds D hD).2.1, ?_⟩, (h.below.setCell (p := ⟨H, 0, none⟩) (Nat.le_refl _) _).setCell (p := ⟨H + 1, 0, none⟩) (Nat.le_succ _) _⟩
  have hd := (h.ds D hD).2.2
  have n4 : D ≠ H := fun q => by rw [q, show A.heap[H]? = _ from h.b4] at hd; cases hd
  have n5 : D ≠ H + 1 := fun q => by rw [q, show A.heap[H + 1]? = _ from h.b5] at hd; cases hd
  exact (Below.heap_setCell _ _ _ _ n5).trans ((Below.heap_setCell _ _ _ _ n4).trans hd)
theorem ME.own {H : Nat} {e : Int} {Ds : List Nat} {top B' : Nat} {w A B : World} {row : Option Nat} (h : ME H e Ds top w A) (hg : A.grownBy B row) (hr : ∀ q, row = some q → B' ≤ q ∧ ∃ o : Obj, A.heap[q]? = some o ∧ o.isCells = false) (ht : top ≤ B') (hH : H ≤ B') (hw : H ≤ A.heap.size) : ME H e Ds top w B := by
  have s := SameC.own hg (fun q e => (hr q e).2)
  exact ⟨s.boxed h.b4 (by simp), s.boxed h.b5 (by simp), fun D hD => ⟨(h.ds D hD).1, (h.ds D hD).2.1, (hg.block D (lt_of (h.ds D hD).2.2) (fun e => by have := (hr D e.symm).1; have := (h.ds D hD).2.1; omega)).trans (h.ds D hD).2.2⟩, h.below.trans ⟨hg.os, hg.tape, hg.output, hg.size, fun k hk => hg.block k (by omega) (fun e => by have := (hr k e.symm).1; omega)⟩⟩
def markD (D : Nat) : Deferred := { target := .collected D, args := #[] }
theorem leaves_marks7 {F : Fence} {k : Nat} {P : Program} {fn : Func} {tmps : Array Value} {R : Ending → World → Prop} (base : Nat) : ∀ (Ds : List Nat) (w : World), Ds.Nodup → (∀ D ∈ Ds, base ≤ D ∧ w.heap[D]? = some (.deferred (some []))) → (∀ w', SameC none w w' ∧ Below base w w' → LeavesIn F k P fn tmps R [] .returning w') → LeavesInM F k P fn tmps R (Ds.map markD) .returning w
  | [], w, _, _, h => h w ⟨⟨Nat.le_refl _, fun _ _ hb _ _ => hb⟩, Below.refl _ _⟩
  | D :: Ds, w, hn, hD, h => by
    have h1 := hD D (by simp)
    have nd := List.nodup_cons.1 hn
    refine ⟨by simp, .inl ⟨D, _, rfl, run_takeDeferred h1.2, ?_⟩⟩
    have kb : SameC none w (w.putObj D (.deferred none)) ∧ Below base w (w.putObj D (.deferred none)) := ⟨⟨by simp [World.putObj], fun b o hb ho _ => by
      have ne : b ≠ D := fun e => by subst e; rw [h1.2] at hb; cases hb; cases ho
      rw [World.putObj_heap_other ne]
      exact hb⟩, ⟨rfl, rfl, rfl, by simp [World.putObj], fun j hj => World.putObj_heap_other (by omega)⟩⟩
    refine leaves_marks7 base Ds _ nd.2 (fun D' hD' => ?_) (fun w' hw => h w' ⟨⟨Nat.le_trans kb.1.size hw.1.size, fun b o hb ho hx => hw.1.block b o (kb.1.block b o hb ho hx) ho hx⟩, kb.2.trans hw.2⟩)
    have h2 := hD D' (List.mem_cons_of_mem _ hD')
    have ne : D' ≠ D := fun e => nd.1 (e ▸ hD')
    exact ⟨h2.1, (World.putObj_heap_other ne).trans h2.2⟩
theorem ty_put {n m r : Nat} (x : YE) (W : World) (l : Nat) (o o' : Obj) (h : TY n m r x W) (hl : W.heap[l]? = some o) (hc : o.isCells = false) : TY n m r x (W.putObj l o') := by
  have s := SameC.own (grownBy_putObj' W l o') (fun q e => by cases e; exact ⟨o, hl, hc⟩)
  exact ⟨h.1, fun z hz => ⟨s.zone (h.2 z hz).1 (by simp), (h.2 z hz).2.1, (h.2 z hz).2.2.1, s.safe (h.2 z hz).2.2.2 (by simp)⟩⟩
end Go.Proofs.YtnfkmpickmonoaaGreat

/-
  fed: unions in memory; fits.
-/
namespace Go.Proofs.YtnfkmpickmonoaaGreat
open Go.RowKit Go.Shelf
set_option linter.unusedVariables false
set_option maxRecDepth 100000
attribute [local go_sem] Oper.semAt_some
/-- A union in memory. -/
structure FedAt (w : World) (fb n m : Nat) (zs : List ZR) : Prop where
  c0 : w.cell? ⟨fb, 0, none⟩ = some (.int .i64 n)
  c1 : ∃ v, w.cell? ⟨fb, 1, none⟩ = some v ∧ w.ownsRow 0 41 1 v zs.length (zs.map pvF)
  zones : ∀ e ∈ zs, ZoneAt w e.1 n e.2 ∧ ZC n m e.2 ∧ ¬ e.2 0 < 1
  len : zs.length ≤ 4096
theorem SameC.owns {X : Option Nat} {A B : World} (h : SameC X A B) {base k : Nat} {v : Value} {xs : List Value} (hR : A.ownsRow base 41 1 v k xs) (hv : ∀ x, X = some x → v.ownBlock ≠ some x) : B.ownsRow base 41 1 v k xs := by
  refine ⟨hR.1, ?_⟩
  rcases hR.2 with q | ⟨g, cap, cur, h1, h2, h3, h4⟩
  · exact .inl q
  · refine .inr ⟨g, cap, cur, h1, h2, h.block g _ h3 rfl (fun e => ?_), h4⟩
    exact hv g e.symm (by rw [h1]; rfl)
theorem FedAt.same {A B : World} (hs : SameC none A B) {fb n m : Nat} {zs : List ZR} (h : FedAt A fb n m zs) : FedAt B fb n m zs := by
  obtain ⟨h0, ⟨v, h1, h2⟩, h3, h4⟩ := h
  exact ⟨hs.cell h0 (by simp), ⟨v, hs.cell h1 (by simp), hs.owns h2 (fun x e => by cases e)⟩, fun e he => ⟨hs.zone (h3 e he).1 (by simp), (h3 e he).2⟩, h4⟩
theorem FedAt.past {A B : World} (hb : Below A.heap.size A B) {fb n m : Nat} {zs : List ZR} (h : FedAt A fb n m zs) : FedAt B fb n m zs := h.same (SameC.below hb)
/-- The slice's elements. -/
theorem owns_elem {w : World} {base : Nat} {v : Value} {zs : List ZR} (h : w.ownsRow base 41 1 v zs.length (zs.map pvF)) (hne : zs ≠ []) : ∃ g cap, v = .slice (some ⟨g, 0, none⟩) zs.length cap ∧ ∀ k (hk : k < zs.length), w.cell? ⟨g, k, none⟩ = some (pvF zs[k]) := by
  rcases h.2 with ⟨-, q⟩ | ⟨g, cap, cur, h1, h2, h3, h4, h5, h6, h7⟩
  · exact absurd (List.length_eq_zero_iff.1 q) hne
  · refine ⟨g, cap, h1, fun k hk => ?_⟩
    have e : cur.toList[k]? = some (pvF zs[k]) := by
      have := congrArg (fun l => l[k]?) h7
      simp only [Nat.mul_one] at this
      rw [List.getElem?_take_of_lt hk] at this
      rw [this]
      simp [hk]
    have e' : cur[k]? = some (pvF zs[k]) := by simpa using e
    simp [World.cell?, h3, e']
def fitE (n k : Nat) : Int := if k = n then 0 else 11
theorem fits_any (fb zb n k : Nat) (d : Row) (w : World) (c0 : w.cell? ⟨fb, 0, none⟩ = some (.int .i64 n)) (hz : ZoneAt w zb k d) :
    Calls Tryz.prog 47 #[.pointer (some ⟨fb, 0, none⟩), .pointer (some ⟨zb, 0, none⟩)] w fun e w' => e = .returned (.int .i64 (fitE n k)) ∧ Below w.heap.size w w' := by
  have HD := hideD (fun w' (h : Below w.heap.size w w') => zdim_any zb k d w' (hz.past h))
  clear hz
  obtain ⟨t, ht⟩ : ∃ t, ((k : Int) == (n : Int)) = t := ⟨_, rfl⟩
  have HE : Hid (fitE n k = if t = true then 0 else 11) := by
    show _ = _
    rw [← ht]
    unfold fitE
    by_cases c : k = n
    · subst c
      simp
    · have c' : ¬ (k : Int) = (n : Int) := by omega
      simp [c, c']
  generalize fitE n k = E at *
  cases t with
  | true =>
    obtain rfl : E = 0 := HE.out
    clear HE
    go_enter Tryz.func47, Tryz.ntmps47
    go_wp2_with fail
    go_region_held3 (fun w' => Below w.heap.size w w' ∧ w'.cell? ⟨fb, 0, none⟩ = some (.int .i64 n))
      (first | exact ⟨by first | assumption | exact Below.refl _ _ | exact Below.drew (Below.refl _ _) | exact Below.drew (by assumption), by first | assumption | simp [go_sem, *]⟩ | go_keep)
      (first | (go_at_call 30; refine (HD.out _ (by first | assumption | exact Below.refl _ _ | exact Below.drew (Below.refl _ _) | exact Below.drew (by assumption))).mono ?_; rintro e' w' ⟨rfl, rfl⟩))
    all_goals
      go_wp2_with fail
      go_ret
      exact ⟨rfl, by first | assumption | exact Below.drew (Below.refl _ _)⟩
  | false =>
    obtain rfl : E = 11 := HE.out
    clear HE
    go_enter Tryz.func47, Tryz.ntmps47
    go_wp2_with fail
    go_region_held3 (fun w' => Below w.heap.size w w' ∧ w'.cell? ⟨fb, 0, none⟩ = some (.int .i64 n))
      (first | exact ⟨by first | assumption | exact Below.refl _ _ | exact Below.drew (Below.refl _ _) | exact Below.drew (by assumption), by first | assumption | simp [go_sem, *]⟩ | go_keep)
      (first | (go_at_call 30; refine (HD.out _ (by first | assumption | exact Below.refl _ _ | exact Below.drew (Below.refl _ _) | exact Below.drew (by assumption))).mono ?_; rintro e' w' ⟨rfl, rfl⟩))
    all_goals
      go_wp2_with fail
      go_ret
      exact ⟨rfl, by first | assumption | exact Below.drew (Below.refl _ _)⟩
end Go.Proofs.YtnfkmpickmonoaaGreat
