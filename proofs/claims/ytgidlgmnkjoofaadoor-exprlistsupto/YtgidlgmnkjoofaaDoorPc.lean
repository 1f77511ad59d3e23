/-
  Folding a list of nodes from its end, as a function; lists of nodes in memory.
-/
import Derived.Test.YtgidlgmnkjoofaaDoorPb
namespace Go.Proofs.YtgidlgmnkjoofaaDoor
open Go.RowKit
set_option linter.unusedVariables false
abbrev Node := Nat × Int
abbrev NodeC (n : Node) : List Value := [.int .u8 (n.1 : Int), .int .i64 n.2]
def pt (n : Node) : Nat := (opR n.1).1
theorem opR_parts (o : Nat) : (opR o).1 ≤ 2 := by
  by_cases c : o < 15
  · rw [opR_in o c]
    have : ∀ i (h : i < 15), (opTab[i]'h).1 ≤ 2 := by decide
    exact this o c
  · rw [opR_out o (by omega)]; decide
theorem pt_le (n : Node) : pt n ≤ 2 := opR_parts n.1
theorem run_parts (w : World) (a b c d e : Value) : (Instr.field 126 (.agg #[a, b, c, d, e]) 0).run Tryd.prog w = .ok a w := by
  simp [Instr.field, run_underlying Tryd.underlying126, asAgg, part, go_sem]
/-- What is made of a list of nodes, the first on top. -/
def stk {α : Type} (jn : Node → List α → Option α) : List Node → Option (List α)
  | [] => some []
  | n :: l => match stk jn l with
    | none => none
    | some s => if s.length < pt n then none else (jn n (s.take (pt n))).map (· :: s.drop (pt n))
def foldL {α : Type} (jn : Node → List α → Option α) (l : List Node) : Option α := match stk jn l with
  | some [t] => some t
  | _ => none
theorem stk_cons {α : Type} (jn : Node → List α → Option α) (n : Node) (l : List Node) {s : List α} (h : stk jn l = some s) : stk jn (n :: l) = if s.length < pt n then none else (jn n (s.take (pt n))).map (· :: s.drop (pt n)) := by rw [stk, h]
theorem stk_len {α : Type} (jn : Node → List α → Option α) : ∀ (l : List Node) (s : List α), stk jn l = some s → s.length ≤ l.length
  | [], s, h => by simp [stk] at h; subst h; simp
  | n :: l, s, h => by
    rw [stk] at h
    split at h
    · cases h
    · rename_i s' e
      split at h
      · cases h
      · obtain ⟨t, _, rfl⟩ := Option.map_eq_some_iff.1 h
        have := stk_len jn l s' e
        simp
        omega
theorem stk_none_app {α : Type} (jn : Node → List α → Option α) (l : List Node) (h : stk jn l = none) : ∀ pre : List Node, stk jn (pre ++ l) = none
  | [] => h
  | n :: pre => by rw [List.cons_append, stk, stk_none_app jn l h pre]
theorem stk_none_drop {α : Type} (jn : Node → List α → Option α) (l : List Node) (k : Nat) (h : stk jn (l.drop k) = none) : stk jn l = none := by
  have := stk_none_app jn (l.drop k) h (l.take k)
  rwa [List.take_append_drop] at this
theorem fold_none {α : Type} (jn : Node → List α → Option α) (l : List Node) (h : stk jn l = none) : foldL jn l = none := by unfold foldL; rw [h]
theorem fold_many {α : Type} (jn : Node → List α → Option α) (l : List Node) (s : List α) (h : stk jn l = some s) (hs : ¬ s.length = 1) : foldL jn l = none := by
  unfold foldL
  rw [h]
  match s, hs with
  | [], _ => rfl
  | [_], h => exact absurd rfl h
  | _ :: _ :: _, _ => rfl
theorem fold_one {α : Type} (jn : Node → List α → Option α) (l : List Node) (t : α) (h : stk jn l = some [t]) : foldL jn l = some t := by unfold foldL; rw [h]
end Go.Proofs.YtgidlgmnkjoofaaDoor
