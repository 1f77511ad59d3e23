/-
  The pieces of TopFollows: what is handed in; the valuation in memory.
-/
import Derived.Test.YtjanibholjimkaaQ50
import Derived.Deep.Slices
import Derived.Deep.Strs
import Derived.Deep.RegionWith
import Derived.ProofKit
import Derived.OpenShut
namespace Go.Proofs.Ytjanibholjimkaa
open Go.RowKit Go.Shelf Go.ChangeShapes Go.WideShapes Go.ChangeAt Go.Deep
set_option linter.unusedVariables false
set_option maxRecDepth 100000
attribute [local go_sem] Oper.semAt_some
/-- A list of deeds. -/
structure Deeds where
  q : Nat
  k : Nat → Int
  n : Nat → Int
  d : Nat → Int
  i : Nat → Int
  j : Nat → Int
  m : Nat → Int
  b : Nat → Int
/-- A valuation in memory that may be written to. -/
def VMem (w : World) (vb n : Nat) (X : Nat → Int) : Prop := ∀ i, i ≤ n → w.cell? ⟨vb, i * 2, none⟩ = some (.int .i64 (fN (X i))) ∧ w.cell? ⟨vb, i * 2 + 1, none⟩ = some (.int .i64 (fD (X i))) ∧ w.frozen? ⟨vb, i * 2, none⟩ = false ∧ w.frozen? ⟨vb, i * 2 + 1, none⟩ = false
theorem VMem.at {w : World} {vb n : Nat} {X : Nat → Int} (h : VMem w vb n X) : VAt w vb n X := fun i hi => ⟨(h i hi).1, (h i hi).2.1⟩
theorem VMem.past {w w' : World} {vb n : Nat} {X : Nat → Int} (h : VMem w vb n X) (hb : Below w.heap.size w w') : VMem w' vb n X := fun i hi => by
  obtain ⟨h1, h2, h3, h4⟩ := h i hi
  exact ⟨kc _ _ hb h1, kc _ _ hb h2, kf _ _ hb h1 h3, kf _ _ hb h2 h4⟩
theorem VMem.congr {w : World} {vb n : Nat} {X Y : Nat → Int} (h : VMem w vb n X) (e : ∀ i, i ≤ n → Y i = X i) : VMem w vb n Y := fun i hi => by rw [e i hi]; exact h i hi
theorem VMem.set {w : World} {vb n i : Nat} {X : Nat → Int} (h : VMem w vb n X) (hi : i ≤ n) (y : Int) : VMem ((w.setCell ⟨vb, i * 2, none⟩ (.int .i64 (fN y))).setCell ⟨vb, i * 2 + 1, none⟩ (.int .i64 (fD y))) vb n (SVk X i y) := fun j hj => by
  obtain ⟨h1, h2, h3, h4⟩ := h j hj
  unfold SVk
  by_cases e : j = i
  · subst e
    rw [if_pos rfl]
    simp [go_sem, *]
  · rw [if_neg e]
    have a : ∀ a b : Nat, ¬ a = b → ∀ u : World, ∀ v : Value, (u.setCell ⟨vb, b, none⟩ v).cell? ⟨vb, a, none⟩ = u.cell? ⟨vb, a, none⟩ := fun a b ne u v => World.cell?_setCell_other _ _ _ _ (by intro e; injection e; omega)
    have f : ∀ a b : Nat, ∀ u : World, ∀ v : Value, (u.setCell ⟨vb, b, none⟩ v).frozen? ⟨vb, a, none⟩ = u.frozen? ⟨vb, a, none⟩ := fun a b u v => by simp [go_sem]
    rw [a _ _ (by omega), a _ _ (by omega), a _ _ (by omega), a _ _ (by omega), f, f, f, f]
    exact ⟨h1, h2, h3, h4⟩
theorem ZoneAt.only {w w' : World} {d b n : Nat} {c : Row} (h : ZoneAt w b n c) (ho : OnlyB d w w') (ne : b ≠ d) : ZoneAt w' b n c := by
  have lt : b < w.heap.size := World.block_lt_of_cell? _ _ h.clocks
  have a : ∀ k, w'.cell? ⟨b, k, none⟩ = w.cell? ⟨b, k, none⟩ := fun k => ho.cell (p := ⟨b, k, none⟩) lt ne
  have f : ∀ k, w'.frozen? ⟨b, k, none⟩ = w.frozen? ⟨b, k, none⟩ := fun k => ho.frozen (p := ⟨b, k, none⟩) lt ne
  exact ⟨by rw [a]; exact h.clocks, fun k hk => by rw [a]; exact h.cell k hk, fun k hk => by rw [f]; exact h.free k hk⟩
/-- What stands behind so many steps. -/
structure StM (w wr : World) (vb n m zb : Nat) (c : Row) (X : Nat → Int) (K : Nat) : Prop where
  st : St n m c X K
  z : ZoneAt wr zb n c
  v : VMem wr vb n X
  below : Below w.heap.size w wr
  ne : zb ≠ vb
  lo : w.heap.size ≤ vb
end Go.Proofs.Ytjanibholjimkaa
