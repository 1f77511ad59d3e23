/-
  The contracts of rat.New, termsOf, opposite, times, add, sign and Compare.
-/
import Derived.Test.YtacgkbmhklfcaabRc
import Derived.Deep.RegionHeld3
namespace Go.Proofs.Ytacgkbmhklfcaab
open Go.RowKit Go.Shelf
set_option linter.unusedVariables false

theorem keep2 {W w1 : World} {b : Nat} {B : Nat} {W0 : World} {u v : Value} (h : Below B W0 W ∧ W.cell? ⟨b, 0, none⟩ = some u ∧ W.cell? ⟨b, 1, none⟩ = some v ∧ W.frozen? ⟨b, 0, none⟩ = false ∧ W.frozen? ⟨b, 1, none⟩ = false) (hB : B ≤ W.heap.size) (hb : Below W.heap.size W w1) :
    Below B W0 w1 ∧ w1.cell? ⟨b, 0, none⟩ = some u ∧ w1.cell? ⟨b, 1, none⟩ = some v ∧ w1.frozen? ⟨b, 0, none⟩ = false ∧ w1.frozen? ⟨b, 1, none⟩ = false := by
  obtain ⟨h0, h1, h2, h3, h4⟩ := h
  have l1 := World.block_lt_of_cell? _ _ h1
  have l2 := World.block_lt_of_cell? _ _ h2
  exact ⟨h0.trans (hb.mono hB), (hb.cell l1).trans h1, (hb.cell l2).trans h2, (hb.frozen l1).trans h3, (hb.frozen l2).trans h4⟩

theorem kc {W w1 : World} (a : Addr) (v : Value) (hb : Below W.heap.size W w1) (h : W.cell? a = some v) : w1.cell? a = some v := (hb.cell (World.block_lt_of_cell? _ _ h)).trans h
theorem kf {W w1 : World} (a : Addr) (v : Value) (hb : Below W.heap.size W w1) (h : W.cell? a = some v) (g : W.frozen? a = false) : w1.frozen? a = false := (hb.frozen (World.block_lt_of_cell? _ _ h)).trans g
theorem quo_eq (a g : Int) (a0 : 0 ≤ a) (a1 : a ≤ 18446744073709551615) (hg : 0 < g) : IntKind.u64.wrap (a.tdiv g) = a / g := by
  rw [Int.tdiv_eq_ediv_of_nonneg a0, IntKind.wrap_u64]
  have h1 := Int.ediv_nonneg a0 (Int.le_of_lt hg)
  have h2 : a / g ≤ a := Int.ediv_le_self g a0
  omega
end Go.Proofs.Ytacgkbmhklfcaab
