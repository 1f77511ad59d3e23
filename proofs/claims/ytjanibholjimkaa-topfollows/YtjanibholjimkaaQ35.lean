/-
  The contracts of rat.New, termsOf, opposite, times, add, sign and Compare.
-/
import Derived.Test.YtjanibholjimkaaQ34
import Derived.Deep.RegionHeld3
namespace Go.Proofs.Ytjanibholjimkaa
open Go.RowKit Go.Shelf
set_option linter.unusedVariables false

theorem kc {W w1 : World} (a : Addr) (v : Value) (hb : Below W.heap.size W w1) (h : W.cell? a = some v) : w1.cell? a = some v := (hb.cell (World.block_lt_of_cell? _ _ h)).trans h
theorem kf {W w1 : World} (a : Addr) (v : Value) (hb : Below W.heap.size W w1) (h : W.cell? a = some v) (g : W.frozen? a = false) : w1.frozen? a = false := (hb.frozen (World.block_lt_of_cell? _ _ h)).trans g
theorem quo_eq (a g : Int) (a0 : 0 ≤ a) (a1 : a ≤ 18446744073709551615) (hg : 0 < g) : IntKind.u64.wrap (a.tdiv g) = a / g := by
  rw [Int.tdiv_eq_ediv_of_nonneg a0, IntKind.wrap_u64]
  have h1 := Int.ediv_nonneg a0 (Int.le_of_lt hg)
  have h2 : a / g ≤ a := Int.ediv_le_self g a0
  omega
end Go.Proofs.Ytjanibholjimkaa
