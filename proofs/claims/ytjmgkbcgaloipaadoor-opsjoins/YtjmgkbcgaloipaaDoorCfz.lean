/-
  Slices of matrices opened; two rows of pointers that grow side by side.
-/
import Derived.Test.YtjmgkbcgaloipaaDoorCez
namespace Go.Proofs.YtjmgkbcgaloipaaDoor
open Go.ChangeShapes Go.WideShapes Go.ChangeAt Go.RowKit Go.Deep
set_option linter.unusedVariables false
set_option maxRecDepth 100000
/-- Matrices behind an address: how many clocks, and the cells. -/
def Zss (w : World) (ad : Option Addr) (len : Nat) (K : Nat → Int) (V : Nat → Value) (L : Nat → List Int) : Prop := ∀ k, k < len → ∃ b off, ad = some ⟨b, off, none⟩ ∧ w.cell? ⟨b, off + k * 2, none⟩ = some (.int .i64 (K k)) ∧ w.cell? ⟨b, off + k * 2 + 1, none⟩ = some (V k) ∧ SliceAt w (V k) (L k) ∧ (∀ z ∈ L k, (Lit.int .i32 z).wf = true) ∧ (L k).length ≤ 9223372036854775807
theorem open_zss {H : Type} {enc : TypeId × Value → H} {w : World} {base : Nat} {spare : Nat → Bool} {held : Bool} {fuel : Nat} {ad : Option Addr} {len cap : Nat} {x : DataW H × List MemPlace}
    (h : DataW.trod enc Tryd.prog w base spare held fuel 52 (Value.slice ad len cap).cells.toList = some x) :
    ∃ K V L, Zss w ad len K V L ∧ (len = 0 ∨ ∃ ds ss, x.1 = .slice ds ss ∧ ds.length = len) := by
  rcases open_slice Tryd.underlying52 h with ⟨h0, _⟩ | ⟨a, len', cap', m, n, D, Pl, h0, hb, hl, hm, hmm, hx', hx⟩
  · simp [Value.cells] at h0
    obtain ⟨rfl, rfl, rfl⟩ := h0
    exact ⟨fun _ => 0, fun _ => .bool false, fun _ => [], fun k hk => by omega, .inl rfl⟩
  · simp [Value.cells] at h0
    obtain ⟨rfl, rfl, rfl⟩ := h0
    have hlm : len ≤ m := by rw [hmm]; split <;> omega
    have ce : Tryd.prog.cellsOf 56 = 2 := by kernel_rfl
    have each : ∀ i, i < len → ∃ q : Int × Value × List Int, w.cell? (a.add (i * 2)) = some (.int .i64 q.1) ∧ w.cell? (a.add (i * 2 + 1)) = some q.2.1 ∧ SliceAt w q.2.1 q.2.2 ∧ (∀ z ∈ q.2.2, (Lit.int .i32 z).wf = true) ∧ q.2.2.length ≤ 9223372036854775807 := by
      intro i hi
      obtain ⟨cs', h1, h2⟩ := hx i (by omega)
      rw [ce] at h1
      obtain ⟨_, hlen, hcell⟩ := World.cells?_some h1
      obtain ⟨y0, y1, k, -, -, g0, g1⟩ := trod_struct2 Tryd.underlying56 h2
      match cs', hlen with
      | [v0, v1], _ =>
        have c0 : Tryd.prog.cellsOf 3 = 1 := by kernel_rfl
        have c1 : Tryd.prog.cellsOf 22 = 1 := by kernel_rfl
        simp [c0, c1] at g0 g1
        obtain ⟨z0, e0, _, _⟩ := DataW.trod_int Tryd.underlying3 g0
        obtain ⟨l, s1, s2, s3⟩ := open_bs g1
        have k0 := hcell 0 (by omega)
        have k1 := hcell 1 (by omega)
        rw [add_add] at k0 k1
        simp at e0
        subst e0
        exact ⟨(z0, v1, l), by simpa using k0, by simpa using k1, s1, s2, s3⟩
    obtain ⟨q, hq⟩ := choose_lt each
    refine ⟨fun k => (q k).1, fun k => (q k).2.1, fun k => (q k).2.2, fun k hk => ?_, .inr ⟨_, _, by rw [hx'], by simp⟩⟩
    obtain ⟨bk, off, spot⟩ := a
    obtain ⟨c0, c1, c2, c3, c4⟩ := hq k hk
    have hspot : spot = none := by have := World.cell?_spot (hq 0 (by omega)).1; simpa [Addr.add] using this
    subst hspot
    rw [Go.WideShapes.add_plain] at c0 c1
    exact ⟨bk, off, rfl, c0, by rw [Nat.add_assoc]; exact c1, c2, c3, c4⟩
/-- Two rows lie in blocks of their own. -/
def Apart (v1 v2 : Value) : Prop := ∀ g, v1.ownBlock = some g → v2.ownBlock = some g → False
theorem Apart.kept {W W' : World} {base : Nat} {e : TypeId} {size n : Nat} {v v2 : Value} {xs : List Value} (h : Apart v v2) (ho : W.ownsRow base e size v2 n xs) (hg : W.grownBy W' v.ownBlock) : W'.ownsRow base e size v2 n xs := by
  refine ho.kept hg ?_
  cases c : v2.ownBlock with
  | none => exact .inl rfl
  | some g => exact .inr fun q => h g q.symm c
theorem own_apart {w : World} {base e1 e2 s1 s2 n1 n2 : Nat} {v1 v2 : Value} {xs1 xs2 : List Value} (h1 : w.ownsRow base e1 s1 v1 n1 xs1) (h2 : w.ownsRow base e2 s2 v2 n2 xs2) (ne : e1 ≠ e2) : Apart v1 v2 := by
  intro g a b
  rcases h1.2 with ⟨rfl, -⟩ | ⟨g1, c1, cur1, rfl, -, k1, -⟩
  · cases a
  · rcases h2.2 with ⟨rfl, -⟩ | ⟨g2, c2, cur2, rfl, -, k2, -⟩
    · cases b
    · simp [Value.ownBlock] at a b
      subst a b
      rw [k1] at k2
      injection k2 with k2
      injection k2 with _ k2
      exact ne k2
/-- A row of pointers of the call's own. -/
structure Ptrs (w : World) (base T : Nat) (u : Value) (ps : List (Option Addr)) : Prop where
  own : w.ownsRow base T 1 u ps.length (ps.map Value.pointer)
  none : ps.length = 0 → u = .slice .none 0 0
theorem ptrs_nil (w : World) (base T : Nat) : Ptrs w base T (.slice none 0 0) [] := ⟨World.ownsRow_nil _ _ _ _, fun _ => rfl⟩
theorem Ptrs.past {w w' : World} {base T : Nat} {u : Value} {ps : List (Option Addr)} (h : Ptrs w base T u ps) (hb : Below w.heap.size w w') : Ptrs w' base T u ps := ⟨own_past h.own hb, h.none⟩
theorem Ptrs.cell {w : World} {base T : Nat} {u : Value} {ps : List (Option Addr)} (h : Ptrs w base T u ps) {k : Nat} (hk : k < ps.length) : ∃ g cap, u = .slice (some ⟨g, 0, .none⟩) ps.length cap ∧ w.cell? ⟨g, k, .none⟩ = some (.pointer (ps.getD k .none)) := by
  rcases h.own.2 with ⟨hv, h0⟩ | ⟨g, cap, cur, hv, h1, h2, h3⟩
  · omega
  · subst hv
    refine ⟨g, cap, rfl, ?_⟩
    rw [h.own.cellAt k (by omega), List.getElem?_map]
    have e : ps[k]? = some (ps.getD k .none) := by simp [List.getD, hk]
    rw [e]
    rfl
theorem Ptrs.row {w : World} {base T : Nat} {u : Value} {ps : List (Option Addr)} (h : Ptrs w base T u ps) : Rowp w u ps := by
  by_cases z : ps.length = 0
  · have := h.none z
    subst this
    exact ⟨.none, 0, by rw [z], fun _ => ⟨z, rfl⟩, fun k hk => by omega⟩
  · obtain ⟨g, cap, e, -⟩ := h.cell (k := 0) (by omega)
    subst e
    refine ⟨_, cap, rfl, (fun e => by cases e), fun k hk => ?_⟩
    obtain ⟨g', cap', e, hc⟩ := h.cell hk
    cases e
    exact ⟨g, rfl, hc⟩
/-- What begins with no pointer lies not in such a row. -/
theorem Ptrs.apart {w : World} {base T b : Nat} {u x : Value} {ps : List (Option Addr)} (h : Ptrs w base T u ps) (hc : w.cell? ⟨b, 0, .none⟩ = some x) (hx : ∀ a, x ≠ .pointer a) : some b ≠ u.ownBlock := by
  intro e
  by_cases z : ps.length = 0
  · rw [h.none z] at e; simp [Value.ownBlock] at e
  · obtain ⟨g, cap, rfl, c0⟩ := h.cell (k := 0) (by omega)
    simp [Value.ownBlock] at e
    subst e
    rw [hc] at c0
    injection c0 with c0
    exact hx _ c0
theorem PZ.grown {w w' : World} {base T : Nat} {u : Value} {ps : List (Option Addr)} {p : Option Addr} {o : OZ} (h : PZ w p o) (hu : Ptrs w base T u ps) (hg : w.grownBy w' u.ownBlock) : PZ w' p o := by
  cases o with
  | none => exact h
  | some x =>
    obtain ⟨h1, h2, b, h3, h4⟩ := h
    exact ⟨h1, h2, b, h3, h4.grown hg (hu.apart h4.clocks fun a e => by cases e)⟩
theorem RZ.grown {w w' : World} {base T : Nat} {u : Value} {ps : List (Option Addr)} {p : Option Addr} {o : OZ} (h : RZ w p o) (hu : Ptrs w base T u ps) (hg : w.grownBy w' u.ownBlock) : RZ w' p o := by
  cases o with
  | none => exact h
  | some x =>
    obtain ⟨n, c⟩ := x
    obtain ⟨h1, r, B, h3, g, cap, r0, r1, r2, r3, r4⟩ := h
    have mp : 0 < (n + 1) * (n + 1) := Nat.mul_pos (by omega) (by omega)
    have k0 : some r ≠ u.ownBlock := hu.apart r0 fun a e => by cases e
    have k1 : some g ≠ u.ownBlock := hu.apart (by have := r4 0 (by rw [listOf_len]; exact mp); simpa using this) fun a e => by cases e
    exact ⟨h1, r, B, h3, g, cap, hg.cell r0 k0, hg.cell r1 k0, r2, r3, fun j hj => hg.cell (r4 j hj) k1⟩
theorem PZs.grown {w w' : World} {base T : Nat} {u : Value} {ps qs : List (Option Addr)} {os : List OZ} (h : PZs w qs os) (hu : Ptrs w base T u ps) (hg : w.grownBy w' u.ownBlock) : PZs w' qs os := ⟨h.1, fun k hk => (h.2 k hk).grown hu hg⟩
theorem RZs.grown {w w' : World} {base T : Nat} {u : Value} {ps qs : List (Option Addr)} {os : List OZ} (h : RZs w qs os) (hu : Ptrs w base T u ps) (hg : w.grownBy w' u.ownBlock) : RZs w' qs os := ⟨h.1, fun k hk => (h.2 k hk).grown hu hg⟩
theorem getD_app {α : Type} (l : List α) (a d : α) (k : Nat) (hk : k < l.length + 1) : (l ++ [a]).getD k d = if k < l.length then l.getD k d else a := by
  by_cases h : k < l.length
  · rw [if_pos h]
    simp [List.getD, List.getElem?_append_left h]
  · obtain rfl : k = l.length := by omega
    rw [if_neg h]
    simp [List.getD]
theorem PZs.more {w : World} {ps : List (Option Addr)} {os : List OZ} {p : Option Addr} {o : OZ} (h : PZs w ps os) (h1 : PZ w p o) : PZs w (ps ++ [p]) (os ++ [o]) := by
  refine ⟨by simp [h.1], fun k hk => ?_⟩
  simp at hk
  rw [getD_app _ _ _ _ (by rw [h.1]; exact hk), getD_app _ _ _ _ hk, h.1]
  by_cases e : k < os.length
  · rw [if_pos e, if_pos e]; exact h.2 k e
  · rw [if_neg e, if_neg e]; exact h1
theorem RZs.more {w : World} {ps : List (Option Addr)} {os : List OZ} {p : Option Addr} {o : OZ} (h : RZs w ps os) (h1 : RZ w p o) : RZs w (ps ++ [p]) (os ++ [o]) := by
  refine ⟨by simp [h.1], fun k hk => ?_⟩
  simp at hk
  rw [getD_app _ _ _ _ (by rw [h.1]; exact hk), getD_app _ _ _ _ hk, h.1]
  by_cases e : k < os.length
  · rw [if_pos e, if_pos e]; exact h.2 k e
  · rw [if_neg e, if_neg e]; exact h1
theorem zcs_more {os : List OZ} {o : OZ} (h : ∀ k, k < os.length → ZCo (os.getD k none)) (h1 : ZCo o) : ∀ k, k < (os ++ [o]).length → ZCo ((os ++ [o]).getD k none) := fun k hk => by
  simp at hk
  rw [getD_app _ _ _ _ hk]
  by_cases e : k < os.length
  · rw [if_pos e]; exact h k e
  · rw [if_neg e]; exact h1
/-- All that is known of both rows. -/
structure Rows2 (w0 w : World) (u v : Value) (ps qs : List (Option Addr)) (os : List OZ) (I : Nat) : Prop where
  len : os.length = I
  pu : Ptrs w w0.heap.size 23 u ps
  pv : Ptrs w w0.heap.size 24 v qs
  ps : PZs w ps os
  qs : RZs w qs os
  zs : ∀ k, k < os.length → ZCo (os.getD k none)
  below : Below w0.heap.size w0 w
theorem rows2_nil (w : World) : Rows2 w w (.slice none 0 0) (.slice none 0 0) [] [] [] 0 := ⟨rfl, ptrs_nil _ _ _, ptrs_nil _ _ _, ⟨rfl, fun k hk => by cases hk⟩, ⟨rfl, fun k hk => by cases hk⟩, (fun k hk => by cases hk), Below.refl _ _⟩
theorem Rows2.past {w0 w w' : World} {u v : Value} {ps qs : List (Option Addr)} {os : List OZ} {I : Nat} (h : Rows2 w0 w u v ps qs os I) (hb : Below w.heap.size w w') : Rows2 w0 w' u v ps qs os I := ⟨h.len, h.pu.past hb, h.pv.past hb, h.ps.past hb, h.qs.past hb, h.zs, beyondD h.below hb⟩
theorem Rows2.pl {w0 w : World} {u v : Value} {ps qs : List (Option Addr)} {os : List OZ} {I : Nat} (h : Rows2 w0 w u v ps qs os I) : ps.length = I ∧ qs.length = I := ⟨h.ps.1.trans h.len, h.qs.1.trans h.len⟩
/-- The first row has one more. -/
theorem Rows2.first {w0 w w5 : World} {u v v' : Value} {ps qs : List (Option Addr)} {os : List OZ} {I : Nat} {p q : Option Addr} {o : OZ} {ob : Obj} (h : Rows2 w0 w u v ps qs os I) (hp : PZ w p o) (hq : RZ w q o)
    (hown : w5.ownsRow w0.heap.size 23 1 v' (I + 1) (ps.map Value.pointer ++ [.pointer p])) (hg : (w.alloc ob).grownBy w5 u.ownBlock) :
    Ptrs w5 w0.heap.size 23 v' (ps ++ [p]) ∧ Ptrs w5 w0.heap.size 24 v qs ∧ PZs w5 ps os ∧ RZs w5 qs os ∧ PZ w5 p o ∧ RZ w5 q o ∧ Below w0.heap.size w0 w5 := by
  have b1 := below_one w ob
  have u1 := h.pu.past b1
  have hsz := h.below.size
  refine ⟨⟨?_, fun e => by simp at e⟩, ⟨(own_apart u1.own (h.pv.past b1).own (by decide)).kept (h.pv.past b1).own hg, h.pv.none⟩, (h.ps.past b1).grown u1 hg, (h.qs.past b1).grown u1 hg, (hp.past b1).grown u1 hg, (hq.past b1).grown u1 hg, ?_⟩
  · rw [List.map_append, List.length_append, h.pl.1]
    exact hown
  · exact (h.below.alloc hsz ob).grown hg (by simp; omega) (by intro k hk; exact (h.pu.own.lt k hk).1)
/-- The second row has one more. -/
theorem Rows2.second {w0 w w5 : World} {u v v' : Value} {ps qs : List (Option Addr)} {os : List OZ} {I : Nat} {p q : Option Addr} {o : OZ} {ob : Obj} (hl : os.length = I) (hz : ∀ k, k < os.length → ZCo (os.getD k none)) (ho : ZCo o)
    (hu : Ptrs w w0.heap.size 23 u (ps ++ [p])) (hv : Ptrs w w0.heap.size 24 v qs) (hps : PZs w ps os) (hqs : RZs w qs os) (hp : PZ w p o) (hq : RZ w q o) (hb : Below w0.heap.size w0 w)
    (hown : w5.ownsRow w0.heap.size 24 1 v' (I + 1) (qs.map Value.pointer ++ [.pointer q])) (hg : (w.alloc ob).grownBy w5 v.ownBlock) : Rows2 w0 w5 u v' (ps ++ [p]) (qs ++ [q]) (os ++ [o]) (I + 1) := by
  have b1 := below_one w ob
  have v1 := hv.past b1
  have hsz := hb.size
  refine ⟨by simp [hl], ⟨(own_apart v1.own (hu.past b1).own (by decide)).kept (hu.past b1).own hg, hu.none⟩, ⟨?_, fun e => by simp at e⟩, ((hps.past b1).grown v1 hg).more ((hp.past b1).grown v1 hg), ((hqs.past b1).grown v1 hg).more ((hq.past b1).grown v1 hg), zcs_more hz ho, ?_⟩
  · rw [List.map_append, List.length_append, hqs.1, hl]
    exact hown
  · exact (hb.alloc hsz ob).grown hg (by simp; omega) (by intro k hk; exact (hv.own.lt k hk).1)
end Go.Proofs.YtjmgkbcgaloipaaDoor
