/-
  The tokens of a text, as a list; lex.tokens yields them.
-/
import Derived.RangeFuncNested
import Derived.RangeFuncBound
import Derived.RangeFuncCalls
import Derived.RangeFuncLeaves
import Derived.Shelf.Abstract
import Derived.Shelf.RegionOpen
import Derived.WalkKit
import Derived.OwnWalkIn
import Derived.TacticsInMore
import Derived.LoopNIn
import Derived.LoopIn
import Derived.Maps.AppendAt
import Derived.Maps.OwnIn
import Derived.Test.YtdofnjlnleofjaaDoorLj
namespace Go.Proofs.YtdofnjlnleofjaaDoor
open Go.RowKit Go.Shelf
set_option linter.unusedVariables false
attribute [local go_sem] Oper.semAt_some
/-- What is yielded: kind, text, number, place; an error. -/
abbrev Item := Int × ByteArray × Int × Int × Int
def itemV (x : Item) : Value := tokV x.1 x.2.1 x.2.2.1 x.2.2.2.1
abbrev itemVs (x : Item) : Array Value := #[.agg #[.int .u8 x.1, .string x.2.1, .int .i64 x.2.2.1, .int .i64 x.2.2.2.1], .int .i64 x.2.2.2.2]
/-- The tokens from a place on. -/
def itemsG (s : ByteArray) : Nat → Nat → List Item
  | 0, _ => []
  | f + 1, a =>
    if (tokL s.data.toList a).1 = 0 then
      ((tokL s.data.toList a).2.1, s.extract (begL s.data.toList a) (begL s.data.toList a + (tokL s.data.toList a).2.2.1), (tokL s.data.toList a).2.2.2, (begL s.data.toList a : Int), 0) ::
        (if (tokL s.data.toList a).2.1 = 0 then [] else itemsG s f (begL s.data.toList a + (tokL s.data.toList a).2.2.1))
    else [(0, ⟨#[]⟩, 0, (begL s.data.toList a : Int), (tokL s.data.toList a).1)]
def itemsL (s : ByteArray) : List Item := itemsG s (s.size + 1) 0
theorem numM_pos (d : List UInt8) (h : (numM d).1 = 0) : (numM d).2.2.1 = d.length ∧ (numM d).2.1 = 2 := by
  unfold numM at *
  split at h
  · simp at h
  · rename_i q
    rw [if_neg q]
    cases e : numU d 0 with
    | none => rw [e] at h; simp [numT] at h
    | some n => exact ⟨rfl, rfl⟩
/-- A token that is not the end has a byte. -/
theorem firstM_pos : ∀ l : List UInt8, (firstM l).1 = 0 → ¬ (firstM l).2.1 = 0 → 1 ≤ (firstM l).2.2.1
  | [], _, h => absurd rfl h
  | c :: l, h0, h => by
    rw [firstM] at *
    split
    · rename_i q
      show 1 ≤ spanL wrdI (c :: l)
      have : wrdI (c.toNat : Int) = true := by unfold wrdI; rw [q]; rfl
      rw [spanL, if_pos this]
      omega
    · rename_i q0
      rw [if_neg q0] at h0
      split
      · rename_i q
        rw [if_pos q] at h0
        rw [(numM_pos _ h0).1, List.length_take]
        have e : spanL digI (c :: l) = spanL digI l + 1 := by rw [spanL, if_pos q]
        rw [e]
        simp
      · split
        · split <;> decide
        · split
          · decide
          · rename_i q1 q2 q3
            rw [if_neg q1, if_neg q2, if_neg q3] at h0
            split
            · rename_i q
              rw [if_pos q] at h0
              split
              · decide
              · rename_i g
                rw [if_neg g] at h0
                simp at h0
            · rename_i q
              rw [if_neg q] at h0
              simp at h0
theorem tok_pos (l : List UInt8) (a : Nat) (h0 : (tokL l a).1 = 0) (h : ¬ (tokL l a).2.1 = 0) : 1 ≤ (tokL l a).2.2.1 := firstM_pos _ h0 h
theorem items_count (s : ByteArray) : ∀ (f a : Nat), (itemsG s f a).length ≤ f
  | 0, _ => Nat.le_refl _
  | f + 1, a => by
    rw [itemsG]
    split
    · split
      · simp
      · have := items_count s f (begL s.data.toList a + (tokL s.data.toList a).2.2.1)
        simp
        omega
    · simp
/-- Where the slice lies that is in a box. -/
def ownAt (B : Nat) (W : World) : Option Nat := match W.cell? ⟨B, 0, none⟩ with
  | some v => v.ownBlock
  | none => none
theorem ownAt_of {B : Nat} {W W' : World} (h : W'.cell? ⟨B, 0, none⟩ = W.cell? ⟨B, 0, none⟩) : ownAt B W' = ownAt B W := by unfold ownAt; rw [h]
/-- What a round of a caller that collects keeps. -/
structure KeepT (n₀ B : Nat) (W W' : World) : Prop where
  below : Below n₀ W W'
  owns : (∀ g, ownAt B W = some g → g < W.heap.size) → ∀ g, ownAt B W' = some g → g < W'.heap.size
  same : ∀ b o, W.heap[b]? = some o → o.isCells = true → b ≠ B → some b ≠ ownAt B W → W'.heap[b]? = some o
  new : ownAt B W' = ownAt B W ∨ ∃ g, ownAt B W' = some g ∧ W.heap.size ≤ g
theorem KeepT.trans {n₀ B : Nat} {X Y Z : World} (h : KeepT n₀ B X Y) (k : KeepT n₀ B Y Z) : KeepT n₀ B X Z :=
  ⟨h.below.trans k.below, fun q => k.owns (h.owns q), fun b o hb ho hne hx => by
    refine k.same b o (h.same b o hb ho hne hx) ho hne ?_
    intro e
    rcases h.new with q | ⟨g, q1, q2⟩
    · rw [q] at e; exact hx e
    · rw [q1] at e
      injection e with e
      have := (Array.getElem?_eq_some_iff.1 hb).1
      omega, by
    rcases k.new with q | ⟨g, q1, q2⟩
    · rw [q]; exact h.new
    · exact .inr ⟨g, q1, Nat.le_trans h.below.size q2⟩⟩
theorem cell_put {W : World} {l b k : Nat} {o' : Obj} (h : b ≠ l) : (W.putObj l o').cell? ⟨b, k, none⟩ = W.cell? ⟨b, k, none⟩ :=
  World.cell?_of_block (a := ⟨b, k, none⟩) (by
    show (W.putObj l o').heap[b]? = W.heap[b]?
    have := grownBy_putObj' W l o'
    by_cases q : b < W.heap.size
    · exact this.block b q (fun e => h (by injection e))
    · have s : (W.putObj l o').heap.size = W.heap.size := by simp [World.putObj]
      rw [Array.getElem?_eq_none (by omega), Array.getElem?_eq_none (by omega)])
theorem KeepT.put {n₀ B : Nat} {w : World} (hn : n₀ ≤ w.heap.size) (hB : B < w.heap.size) (W : World) (l : Nat) (o o' : Obj) (hl : w.heap.size ≤ l) (h : W.heap[l]? = some o) (hc : o.isCells = false) (hw : o.isWalk = false) : KeepT n₀ B W (W.putObj l o') :=
  have s : (W.putObj l o').heap.size = W.heap.size := by simp [World.putObj]
  have e : ownAt B (W.putObj l o') = ownAt B W := ownAt_of (cell_put (by omega))
  ⟨belowK_b hn W l o o' hl h hc hw, fun q g hg => by rw [e] at hg; rw [s]; exact q g hg, fun b p hb hp hne _ => by
    have := grownBy_putObj' W l o'
    rw [this.block b (Array.getElem?_eq_some_iff.1 hb).1 (fun q => by
      injection q with q
      subst q
      rw [hb] at h
      injection h with h
      rw [h] at hp
      rw [hp] at hc
      cases hc)]
    exact hb, .inl e⟩
end Go.Proofs.YtdofnjlnleofjaaDoor
