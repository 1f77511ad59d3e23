/-
  The contract of rat.sum: the sum of two fractions by their terms, in lowest terms, or that it cannot be held.
-/
import Derived.Test.YtohkbjkfpnhggaaRgz
import Derived.Deep.DeepCutAuto
namespace Go.Proofs.Ytohkbjkfpnhggaa
open Go.RowKit Go.Shelf
set_option linter.unusedVariables false

theorem beyA {X w1 w2 : World} {o : Obj} (h1 : Below (X.alloc o).heap.size (X.alloc o) w1) (h2 : Below w1.heap.size w1 w2) : Below (X.alloc o).heap.size (X.alloc o) w2 := beyond h1 h2
theorem new_cell (X : World) (cs : Array Value) (T : TypeId) (i : Nat) : (X.alloc (.cells cs T)).cell? ⟨X.heap.size, i, none⟩ = cs[i]? := by simp [go_sem]
theorem new_frozen (X : World) (cs : Array Value) (T : TypeId) (i : Nat) : (X.alloc (.cells cs T)).frozen? ⟨X.heap.size, i, none⟩ = false := by simp [go_sem]
theorem beyR {X w1 w2 : World} {o : Obj} {k : Nat} (h1 : Below (X.heap.size + 1) ((X.alloc o).drewN k) w1) (h2 : Below w1.heap.size w1 w2) : Below (X.heap.size + 1) ((X.alloc o).drewN k) w2 := h1.trans (h2.mono (by have := h1.size; simp at this; exact this))
theorem beyD {X w1 w2 : World} {o : Obj} {k : Nat} (h1 : Below ((X.alloc o).drewN k).heap.size ((X.alloc o).drewN k) w1) (h2 : Below w1.heap.size w1 w2) : Below ((X.alloc o).drewN k).heap.size ((X.alloc o).drewN k) w2 := beyond h1 h2
end Go.Proofs.Ytohkbjkfpnhggaa
