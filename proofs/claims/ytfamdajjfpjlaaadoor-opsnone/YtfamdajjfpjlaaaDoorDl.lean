/-
  What must be whatever is asked (live of the statements of dbm).
-/
import Derived.Test.YtfamdajjfpjlaaaDoorDj
namespace Go.Proofs.YtfamdajjfpjlaaaDoor
open Go.RowKit
set_option linter.unusedVariables false
set_option maxRecDepth 100000
theorem zero1 : (zoneR 1 (zeroR 1 (startR 1 (1 + 1) 0))).map (fun c => [c 0, c 1, c 2, c 3]) = some [1, 1, 1, 1] := by kernel_rfl
theorem univ1 : (zoneR 1 (startR 1 (1 + 1) 0)).map (fun c => [c 0, c 1, c 2, c 3]) = some [1, 1, 2147483647, 1] := by kernel_rfl
def scUpto (l m : List Int) : Nat → Bool
  | 0 => true
  | k + 1 => scUpto l m k && (l.getD k 0 == m.getD k 0)
theorem scUpto_false {l m : List Int} : ∀ {k : Nat} (n : Nat), k ≤ n → scUpto l m k = false → scUpto l m n = false := by
  intro k n h e
  induction n with
  | zero => obtain rfl : k = 0 := by omega
            exact e
  | succ n ih =>
    by_cases q : k = n + 1
    · subst q; exact e
    · simp [scUpto, ih (by omega)]
theorem sc_of_eq (l m : List Int) (n : Nat) (h : ∀ j, j < n → l.getD j 0 = m.getD j 0) : scUpto l m n = true := by
  induction n with
  | zero => rfl
  | succ n ih =>
    have := h n (by omega)
    simp only [scUpto, ih (fun j hj => h j (by omega)), this, beq_self_eq_true, Bool.and_self]
theorem list4 (c : Row) (a b d e : Int) (h : [c 0, c 1, c 2, c 3] = [a, b, d, e]) : listOf c ((1 + 1) * (1 + 1)) = [a, b, d, e] := h
theorem map_some {o : Option Row} {l : List Int} (h : o.map (fun c => [c 0, c 1, c 2, c 3]) = some l) : ∃ c, o = some c ∧ [c 0, c 1, c 2, c 3] = l := by
  cases o with
  | none => simp at h
  | some c => exact ⟨c, rfl, by simpa using h⟩
end Go.Proofs.YtfamdajjfpjlaaaDoor
