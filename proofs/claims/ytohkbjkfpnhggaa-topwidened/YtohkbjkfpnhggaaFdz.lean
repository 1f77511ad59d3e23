/-
  Which bounds a point keeps, as a test (no call).
-/
import Derived.Test.YtohkbjkfpnhggaaZf
import Derived.Test.YtohkbjkfpnhggaaZe
namespace Go.Proofs.Ytohkbjkfpnhggaa
open Go.RowKit
set_option linter.unusedVariables false
def kRow (n : Nat) (l : List Int) (v : Nat → Int) (g : Int) (i : Nat) : Bool := (List.range (n + 1)).all fun j => holdsB (l.getD (i * (n + 1) + j) 0) (v i - v j) g
def kB (n : Nat) (l : List Int) (v : Nat → Int) (g : Int) : Bool := (List.range (n + 1)).all fun i => kRow n l v g i
theorem kRow_iff (n : Nat) (l : List Int) (v : Nat → Int) (g : Int) (i : Nat) : kRow n l v g i = true ↔ ∀ j, j ≤ n → holdsB (l.getD (i * (n + 1) + j) 0) (v i - v j) g = true := by
  unfold kRow
  rw [List.all_eq_true]
  constructor
  · intro h j hj
    exact h j (List.mem_range.2 (by omega))
  · intro h j hj
    have := List.mem_range.1 hj
    exact h j (by omega)
theorem kB_iff (n : Nat) (l : List Int) (v : Nat → Int) (g : Int) : kB n l v g = true ↔ ∀ i j, i ≤ n → j ≤ n → holdsB (l.getD (i * (n + 1) + j) 0) (v i - v j) g = true := by
  unfold kB
  rw [List.all_eq_true]
  constructor
  · intro h i j hi hj
    exact (kRow_iff n l v g i).1 (h i (List.mem_range.2 (by omega))) j hj
  · intro h i hi
    have := List.mem_range.1 hi
    exact (kRow_iff n l v g i).2 fun j hj => h i j (by omega) hj
theorem kB_no (n : Nat) (l : List Int) (v : Nat → Int) (g : Int) (i j : Nat) (hi : i ≤ n) (hj : j ≤ n) (h : holdsB (l.getD (i * (n + 1) + j) 0) (v i - v j) g = false) : kB n l v g = false := by
  cases e : kB n l v g
  · rfl
  · have := (kB_iff n l v g).1 e i j hi hj
    rw [h] at this
    cases this
end Go.Proofs.Ytohkbjkfpnhggaa
