/-
  Lists of nodes handed over, one behind the other.
-/
import Derived.Test.YtgidlgmnkjoofaaDoorEv3
import Derived.Test.YtgidlgmnkjoofaaDoorQq
import Derived.Test.YtgidlgmnkjoofaaDoorAo0
namespace Go.Proofs.YtgidlgmnkjoofaaDoor
open Go.RowKit
set_option linter.unusedVariables false
set_option maxRecDepth 100000
theorem NdsV.grown {W W' : World} {g : Nat} {L : NdsL} {r : Option Nat} (h : NdsV W (some ⟨g, 0, none⟩) L) (hg : W.grownBy W' r) (hr : r ≠ some g) : NdsV W' (some ⟨g, 0, none⟩) L := fun k hk => by
  obtain ⟨b, off, e, c1, c2⟩ := h k hk
  have lt : b < W.heap.size := World.block_lt_of_cell? _ _ c1
  have ge : b = g := by
    injection e with e
    injection e with e1 e2
    exact e1.symm
  subst ge
  have same : W'.heap[b]? = W.heap[b]? := hg.block b lt (fun q => hr q.symm)
  exact ⟨b, off, e, by rw [World.cell?_of_block (a := ⟨b, off + k * 2, none⟩) same]; exact c1, by rw [World.cell?_of_block (a := ⟨b, off + k * 2 + 1, none⟩) same]; exact c2⟩
/-- Lists that were handed over: a row of slices of the call's own; each list in a block of its own, with its marked room. -/
structure HandS (base : Nat) (w0 W : World) (Gs : List Sl) (v : Value) : Prop where
  row : W.ownsRow base 23 1 v Gs.length (Gs.flatMap SlC)
  at_ : ∀ e ∈ Gs, ∃ g, e.1 = (some ⟨g, 0, none⟩, e.2.length + 9) ∧ base ≤ g ∧ v.ownBlock ≠ some g ∧ g < W.heap.size ∧ NdsV W (some ⟨g, 0, none⟩) (roomy (ndsOf e.2))
  b : Below base w0 W
  le : base ≤ W.heap.size
theorem HandS.start (w : World) : HandS w.heap.size w w [] (.slice none 0 0) := ⟨World.ownsRow_nil _ _ _ _, fun e he => absurd he (by simp), Below.refl _ _, Nat.le_refl _⟩
theorem HandS.past {base : Nat} {w0 W W' : World} {Gs : List Sl} {v : Value} (h : HandS base w0 W Gs v) (hb : Below W.heap.size W W') : HandS base w0 W' Gs v :=
  ⟨h.row.kept (row := none) ⟨hb.os, hb.tape, hb.output, hb.size, fun k hk _ => hb.block k hk⟩ (by cases v.ownBlock <;> simp), fun e he => by
    obtain ⟨g, h1, h2, h3, h4, h5⟩ := h.at_ e he
    exact ⟨g, h1, h2, h3, Nat.lt_of_lt_of_le h4 hb.size, h5.later hb⟩, h.b.trans (hb.mono h.le), Nat.le_trans h.le hb.size⟩
/-- One list more. -/
theorem HandS.step {base : Nat} {w0 W W' : World} {Gs : List Sl} {v v' : Value} {g : Nat} {el : List Node} (h : HandS base w0 W Gs v) (hn : NdsV W (some ⟨g, 0, none⟩) (roomy (ndsOf el))) (hbg : base ≤ g) (gl : g < W.heap.size) (vg : v.ownBlock ≠ some g)
    (ho : W'.ownsRow base 23 1 v' (Gs.length + 1) (Gs.flatMap SlC ++ [.slice (some ⟨g, 0, none⟩) el.length (el.length + 9)]))
    (hc : (v'.ownBlock = v.ownBlock ∧ v.ownBlock ≠ none ∧ W.grownBy W' v.ownBlock) ∨ (v'.ownBlock = some W.heap.size ∧ W.grownBy W' none)) : HandS base w0 W' (Gs ++ [((some ⟨g, 0, none⟩, el.length + 9), el)]) v' := by
  have all : ∀ x, v.ownBlock ≠ some x → x < W.heap.size → v'.ownBlock ≠ some x ∧ x < W'.heap.size ∧ ∀ L, NdsV W (some ⟨x, 0, none⟩) L → NdsV W' (some ⟨x, 0, none⟩) L := fun x hx lx => by
    rcases hc with ⟨e1, e2, hg⟩ | ⟨e1, hg⟩
    · exact ⟨by rw [e1]; exact hx, Nat.lt_of_lt_of_le lx hg.size, fun L hL => hL.grown hg hx⟩
    · refine ⟨by rw [e1]; intro e; injection e with e; omega, Nat.lt_of_lt_of_le lx hg.size, fun L hL => hL.grown hg (by simp)⟩
  refine ⟨by simpa using ho, fun e he => ?_, ?_, ?_⟩
  · rcases List.mem_append.1 he with q | q
    · obtain ⟨x, h1, h2, h3, h4, h5⟩ := h.at_ e q
      obtain ⟨a1, a2, a3⟩ := all x h3 h4
      exact ⟨x, h1, h2, a1, a2, a3 _ h5⟩
    · obtain rfl := List.mem_singleton.1 q
      obtain ⟨a1, a2, a3⟩ := all g vg gl
      exact ⟨g, rfl, hbg, a1, a2, a3 _ hn⟩
  · rcases hc with ⟨e1, e2, hg⟩ | ⟨e1, hg⟩
    · exact h.b.grown hg h.le (fun k e => (h.row.lt k e).1)
    · exact h.b.grown hg h.le (fun k e => by cases e)
  · rcases hc with ⟨e1, e2, hg⟩ | ⟨e1, hg⟩
    · exact Nat.le_trans h.le hg.size
    · exact Nat.le_trans h.le hg.size
/-- As All and Vars take them. -/
theorem HandS.open_ {base : Nat} {w0 W : World} {Gs : List Sl} {v : Value} (h : HandS base w0 W Gs v) : ∃ ad cap, v = .slice ad Gs.length cap ∧ RowV W ad (Gs.flatMap SlC) ∧ ∀ e ∈ Gs, RowV W e.1.1 (e.2.flatMap NodeC) := by
  obtain ⟨ad, cap, e, hr, -⟩ := own_rowV h.row
  refine ⟨ad, cap, e, hr, fun e he => ?_⟩
  obtain ⟨g, h1, -, -, -, h5⟩ := h.at_ e he
  rw [h1]
  exact row_nds (roomy_of h5)
end Go.Proofs.YtgidlgmnkjoofaaDoor
