/-
  Guards as limits: ops.Limits of the program.
-/
import Derived.Test.YtohkbjkfpnhggaaPtKz
import Derived.Test.YtohkbjkfpnhggaaZd
import Derived.Deep.OwnRows
namespace Go.Proofs.Ytohkbjkfpnhggaa
open Go.RowKit
set_option linter.unusedVariables false
set_option maxRecDepth 100000
abbrev Tri3 := Int × Int × Int
def tc (T : List Tri3) : List Value := T.flatMap fun t => [.int .i64 t.1, .int .i64 t.2.1, .int .i32 t.2.2]
theorem tc_app (T U : List Tri3) : tc (T ++ U) = tc T ++ tc U := by simp [tc]
theorem tc_len (T : List Tri3) : (tc T).length = T.length * 3 := by
  induction T with
  | nil => rfl
  | cons t T ih => rw [show t :: T = [t] ++ T from rfl, tc_app, List.length_append, ih]; simp [tc]; omega
/-- Why a guard is none. -/
def gE (x o k n : Int) : Int := if 0 ≤ x ∧ x ≤ 8 ∧ 0 ≤ o ∧ o ≤ 8 then (if 1 ≤ k ∧ k ≤ 5 then (if -1048576 ≤ n ∧ n ≤ 1048576 then 0 else 13) else 7) else 12
/-- The bounds that say what a guard says. -/
def gT (x o k n : Int) : List Tri3 := if k = 1 then [(x, o, 2 * n)] else if k = 2 then [(x, o, 2 * n + 1)] else if k = 4 then [(o, x, 2 * -n + 1)] else if k = 5 then [(o, x, 2 * -n)] else [(x, o, 2 * n + 1), (o, x, 2 * -n + 1)]
/-- What Limits tells. -/
def LimOut (w' : World) (B : Nat) (e : Ending) (x o k n : Int) : Prop := ((gE x o k n != 0) = true ∧ e = .returned (.tuple #[.slice none 0 0, .int .i64 (gE x o k n)])) ∨ (gE x o k n = 0 ∧ ∃ g q cap, e = .returned (.tuple #[.slice (some ⟨g, 0, none⟩) q cap, .int .i64 0]) ∧ B ≤ g ∧ g < w'.heap.size ∧ q = (gT x o k n).length ∧ ∀ j u, (tc (gT x o k n))[j]? = some u → w'.cell? ⟨g, j, none⟩ = some u)
theorem ofB_s {n : Int} (h0 : -1048576 ≤ n) (h1 : n ≤ 1048576) : ofB n true = 2 * n + 1 ∧ ofB n false = 2 * n ∧ ofB (-n) true = 2 * -n + 1 ∧ ofB (-n) false = 2 * -n := by
  unfold ofB
  refine ⟨?_, ?_, ?_, ?_⟩ <;> rw [if_neg (by omega)] <;> first | rw [if_pos rfl] | rw [if_neg (by decide)]
end Go.Proofs.Ytohkbjkfpnhggaa
