/-
  fed.limits: its walk over the cells of a zone, for a loop that lays zones behind a row.
-/
import Derived.Shelf.Abstract
import Derived.Shelf.RegionOpen
import Derived.WalkKit
import Derived.OwnWalkIn
import Derived.TacticsInMore
import Derived.LoopNIn
import Derived.LoopIn
import Derived.Maps.OwnIn
import Derived.Test.YtnfkmpickmonoaaGreatQ35
namespace Go.Proofs.YtnfkmpickmonoaaGreat
open Go.RowKit Go.Shelf
set_option linter.unusedVariables false
set_option maxRecDepth 100000
attribute [local go_sem] Oper.semAt_some
/-- What is yielded: two numbers and a bound. -/
abbrev Lim := Nat × Nat × Int
abbrev limVs (x : Lim) : Array Value := #[.agg #[.int .i64 (x.1 : Int), .int .i64 (x.2.1 : Int), .int .i32 x.2.2]]
def limAt (n : Nat) (c : Row) (k : Nat) : Lim := (k / (n + 1), k % (n + 1), c k)
/-- The first numbers. -/
def finsL (m K : Nat) : List (Fin m) := (List.finRange m).take K
theorem fins_len {m K : Nat} (h : K ≤ m) : (finsL m K).length = K := by simp [finsL, h]
theorem fins_next {m K : Nat} (h : K < m) : finsL m (K + 1) = finsL m K ++ [⟨K, h⟩] := by
  unfold finsL
  rw [List.take_add_one]
  congr 1
  rw [List.getElem?_eq_getElem (by simpa using h)]
  simp
theorem fins_all (m : Nat) : finsL m m = List.finRange m := by
  unfold finsL
  exact List.take_of_length_le (by simp)
theorem cells_of_cell {w : World} {g k : Nat} {v : Value} (h : w.cell? ⟨g, k, none⟩ = some v) : ∃ o, w.heap[g]? = some o ∧ o.isCells = true := by
  unfold World.cell? at h
  cases e : w.heap[g]? with
  | none => simp [e] at h
  | some o =>
    refine ⟨o, rfl, ?_⟩
    cases o <;> simp_all [Obj.isCells]
theorem lt_of {W : World} {b : Nat} {o : Obj} (h : W.heap[b]? = some o) : b < W.heap.size := (Array.getElem?_eq_some_iff.1 h).1
/-- All blocks of cells stay, but for a row, what it owns, and one more. -/
structure KeepO (n₀ r : Nat) (X : Option Nat) (W W' : World) : Prop where
  below : Below n₀ W W'
  row : ∀ v, W.cell? ⟨r, 1, none⟩ = some v → (∀ b o, W.heap[b]? = some o → o.isCells = true → b ≠ r → some b ≠ X → v.ownBlock ≠ some b → W'.heap[b]? = some o) ∧
    ∃ v', W'.cell? ⟨r, 1, none⟩ = some v' ∧ (v'.ownBlock = v.ownBlock ∨ ∀ b, v'.ownBlock = some b → W.heap.size ≤ b ∧ b < W'.heap.size)
theorem KeepO.trans {n₀ r : Nat} {X : Option Nat} {A B C : World} (h : KeepO n₀ r X A B) (k : KeepO n₀ r X B C) : KeepO n₀ r X A C :=
  ⟨h.below.trans k.below, fun v hv => by
    obtain ⟨h1, v', hv', h2⟩ := h.row v hv
    obtain ⟨k1, v2, hv2, k2⟩ := k.row v' hv'
    refine ⟨fun b o hb ho g1 g2 g3 => k1 b o (h1 b o hb ho g1 g2 g3) ho g1 g2 (fun e => ?_), v2, hv2, ?_⟩
    · rcases h2 with q | q
      · rw [q] at e; exact g3 e
      · have := (q b e).1; have := lt_of hb; omega
    · rcases k2 with q | q
      · rcases h2 with p | p
        · exact .inl (q.trans p)
        · exact .inr fun b hb => ⟨(p b (by rw [← q]; exact hb)).1, Nat.lt_of_lt_of_le (p b (by rw [← q]; exact hb)).2 k.below.size⟩
      · exact .inr fun b hb => ⟨Nat.le_trans h.below.size (q b hb).1, (q b hb).2⟩⟩
theorem KeepO.weak {n₀ r : Nat} {X : Option Nat} {A B : World} (h : KeepO n₀ r none A B) : KeepO n₀ r X A B :=
  ⟨h.below, fun v hv => ⟨fun b o hb ho g1 _ g3 => (h.row v hv).1 b o hb ho g1 (fun e => by cases e) g3, (h.row v hv).2⟩⟩
theorem KeepO.put {n₀ r : Nat} {X : Option Nat} (W : World) (l : Nat) (o o' : Obj) (hn : n₀ ≤ l) (h : W.heap[l]? = some o) (hc : o.isCells = false) : KeepO n₀ r X W (W.putObj l o') := by
  have hg := grownBy_putObj' W l o'
  have ne : ∀ (b : Nat) (p : Obj), W.heap[b]? = some p → p.isCells = true → (W.putObj l o').heap[b]? = W.heap[b]? := fun b p hb hp => hg.block b (lt_of hb) (fun q => by
    injection q with q
    subst q
    rw [hb] at h
    injection h with h
    rw [h] at hp
    rw [hp] at hc
    cases hc)
  refine ⟨⟨rfl, rfl, rfl, by simp, fun k hk => World.putObj_heap_other (by omega)⟩, fun v hv => ⟨fun b p hb hp _ _ _ => (ne b p hb hp).trans hb, v, ?_, .inl rfl⟩⟩
  obtain ⟨p, hp, hi⟩ := cells_of_cell hv
  rw [World.cell?_of_block (w := W) (a := ⟨r, 1, none⟩) (ne r p hp hi)]
  exact hv
theorem KeepO.of {n₀ r : Nat} {X : Option Nat} {W W' : World} (hb : Below W.heap.size W W') (hn : n₀ ≤ W.heap.size) : KeepO n₀ r X W W' :=
  ⟨hb.mono hn, fun v hv => ⟨fun b p hp _ _ _ _ => (hb.block b (lt_of hp)).trans hp, v, kc _ _ hb hv, .inl rfl⟩⟩
theorem KeepO.alloc {n₀ r : Nat} {X : Option Nat} (W : World) (o : Obj) (hn : n₀ ≤ W.heap.size) : KeepO n₀ r X W (W.alloc o) := .of (below_one W o) hn
theorem KeepO.grew {n₀ r : Nat} {X : Option Nat} {v v' : Value} {W W' : World} (h : Grew r v v' W W') (hv : W.cell? ⟨r, 1, none⟩ = some v) (hv' : W'.cell? ⟨r, 1, none⟩ = some v') (lt : ∀ b, v'.ownBlock = some b → b < W'.heap.size) (hb : Below n₀ W W') : KeepO n₀ r X W W' :=
  ⟨hb, fun u hu => by
    rw [hv] at hu
    cases hu
    exact ⟨fun b p hp _ g1 _ g3 => (h.block b (lt_of hp) g1 g3).trans hp, v', hv', h.own.elim .inl fun q => .inr fun b e => ⟨q b e, lt b e⟩⟩⟩
/-- A store into the block that is set aside. -/
theorem KeepO.store {n₀ r x : Nat} (W : World) (u : Value) (hn : n₀ ≤ x) (hr : x ≠ r) : KeepO n₀ r (some x) W (W.setCell ⟨x, 0, none⟩ u) :=
  ⟨(Below.refl n₀ W).setCell (p := ⟨x, 0, none⟩) hn u, fun v hv => ⟨fun b p hp _ _ g2 _ => (Below.heap_setCell _ _ _ _ (fun e => g2 (by rw [e]))).trans hp, v, by rw [World.cell?_setCell_other _ _ _ _ (by intro e; injection e with e1; exact hr e1)]; exact hv, .inl rfl⟩⟩
/-- Is a block none of those that may turn? -/
def Safe (r : Nat) (X : Option Nat) (W : World) (b : Nat) : Prop := b ≠ r ∧ some b ≠ X ∧ ∃ v, W.cell? ⟨r, 1, none⟩ = some v ∧ v.ownBlock ≠ some b
theorem KeepO.cell {n₀ r : Nat} {X : Option Nat} {W W' : World} (h : KeepO n₀ r X W W') {g k : Nat} {u : Value} (hs : Safe r X W g) (hc : W.cell? ⟨g, k, none⟩ = some u) : W'.cell? ⟨g, k, none⟩ = some u := by
  obtain ⟨s1, s2, v, hv, s3⟩ := hs
  obtain ⟨o, ho, hi⟩ := cells_of_cell hc
  rw [World.cell?_of_block (w := W) (a := ⟨g, k, none⟩) (((h.row v hv).1 g o ho hi s1 s2 s3).trans ho.symm)]
  exact hc
theorem KeepO.block {n₀ r : Nat} {X : Option Nat} {W W' : World} (h : KeepO n₀ r X W W') {g : Nat} {o : Obj} (hs : Safe r X W g) (ho : W.heap[g]? = some o) (hi : o.isCells = true) : W'.heap[g]? = some o := by
  obtain ⟨s1, s2, v, hv, s3⟩ := hs
  exact (h.row v hv).1 g o ho hi s1 s2 s3
theorem Safe.keep {n₀ r : Nat} {X : Option Nat} {W W' : World} {b : Nat} (h : Safe r X W b) (hk : KeepO n₀ r X W W') (hb : b < W.heap.size) : Safe r X W' b := by
  obtain ⟨s1, s2, v, hv, s3⟩ := h
  obtain ⟨_, v', hv', q⟩ := hk.row v hv
  refine ⟨s1, s2, v', hv', fun e => ?_⟩
  rcases q with q | q
  · rw [q] at e; exact s3 e
  · have := (q b e).1; omega
theorem Safe.past {r : Nat} {X : Option Nat} {W W' : World} {b : Nat} (h : Safe r X W b) (hb : Below W.heap.size W W') : Safe r X W' b := by
  obtain ⟨s1, s2, v, hv, s3⟩ := h
  exact ⟨s1, s2, v, kc _ _ hb hv, s3⟩
/-- What a row owns lies below the heap's end. -/
def OwnLt (r : Nat) (W : World) : Prop := ∃ v, W.cell? ⟨r, 1, none⟩ = some v ∧ ∀ b, v.ownBlock = some b → b < W.heap.size
theorem OwnLt.keep {n₀ r : Nat} {X : Option Nat} {W W' : World} (h : OwnLt r W) (k : KeepO n₀ r X W W') : OwnLt r W' := by
  obtain ⟨v, hv, hl⟩ := h
  obtain ⟨_, v', hv', q⟩ := k.row v hv
  refine ⟨v', hv', fun b e => ?_⟩
  rcases q with q | q
  · rw [q] at e; exact Nat.lt_of_lt_of_le (hl b e) k.below.size
  · exact (q b e).2
theorem OwnLt.past {r : Nat} {W W' : World} (h : OwnLt r W) (hb : Below W.heap.size W W') : OwnLt r W' := by
  obtain ⟨v, hv, hl⟩ := h
  exact ⟨v, kc _ _ hb hv, fun b e => Nat.lt_of_lt_of_le (hl b e) hb.size⟩
/-- A new block is safe. -/
theorem Safe.fresh {r : Nat} {X : Option Nat} {W W' : World} (h : OwnLt r W) (hb : Below W.heap.size W W') (hX : ∀ x, X = some x → x < W.heap.size) {b : Nat} (g : W.heap.size ≤ b) : Safe r X W' b := by
  obtain ⟨v, hv, hl⟩ := h
  refine ⟨fun e => ?_, fun e => by have := hX b e.symm; omega, v, kc _ _ hb hv, fun e => by have := hl b e; omega⟩
  have := World.block_lt_of_cell? _ _ hv
  simp only at this
  omega
theorem grown_below {B : Nat} {W W' : World} (h : Below B W W') (hB : W.heap.size ≤ B) : W.grownBy W' none := ⟨h.os, h.tape, h.output, h.size, fun k hk _ => h.block k (by omega)⟩
end Go.Proofs.YtnfkmpickmonoaaGreat
