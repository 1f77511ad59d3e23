/-
  A node of a right list, and the trees of its parts, by places.
-/
import Derived.Test.YtmnhbokiibaopaaDoorQl
namespace Go.Proofs.YtmnhbokiibaopaaDoor
open Go.RowKit
set_option linter.unusedVariables false
/-- What is made of the tree at a place. -/
def headAt {α : Type} (f : Node → List α → α) (d : α) (l : List Node) (i : Nat) : α := ((stk (fun n ps => some (f n ps)) (l.drop i)).getD []).headD d
theorem head_of {α : Type} {f : Node → List α → α} {d : α} {l : List Node} {i : Nat} {u : α} {s : List α} (h : stk (fun n ps => some (f n ps)) (l.drop i) = some (u :: s)) : headAt f d l i = u := by
  unfold headAt
  rw [h]
  rfl
theorem stk_lt {α : Type} {jn : Node → List α → Option α} {l : List Node} {i : Nat} {u : α} {s : List α} (h : stk jn (l.drop i) = some (u :: s)) : i < l.length := by
  rcases Nat.lt_or_ge i l.length with q | q
  · exact q
  · rw [List.drop_of_length_le q] at h
    simp [stk] at h
theorem at_node {α : Type} (f : Node → List α → α) (d : α) {k : Int} {l : List Node} {t : Nat} (h : kindL k l = some t) {i : Nat} {x : Node} (hx : l[i]? = some x) :
    ∃ ps : List α, headAt f d l i = f x ps ∧ ps.length = pt x ∧ (1 ≤ pt x → i + 1 < l.length ∧ ps[0]? = some (headAt f d l (i + 1))) ∧ (2 ≤ pt x → i + 1 < endL l ((i + 1 : Nat) : Int) ∧ endL l ((i + 1 : Nat) : Int) < l.length ∧ ps[1]? = some (headAt f d l (endL l ((i + 1 : Nat) : Int)))) := by
  obtain ⟨_, hs⟩ := kindL_stk h
  obtain ⟨S, hS, _⟩ := stk_total f l [t] hs
  obtain ⟨hi, rfl⟩ := List.getElem?_eq_some_iff.1 hx
  obtain ⟨s1, h1⟩ := stk_suffix l S i hS
  rw [drop_eq l hi] at h1
  obtain ⟨s', u, e, hl, hu, rfl⟩ := stk_some h1
  injection hu with hu
  refine ⟨s'.take (pt (l[i]'hi)), ?_, by rw [List.length_take]; omega, fun hp => ?_, fun hp => ?_⟩
  · rw [hu]
    exact head_of (by rw [drop_eq l hi]; exact h1)
  · match s', hl, e with
    | [], hl, e => simp at hl; omega
    | v :: s2, hl, e =>
      refine ⟨stk_lt e, ?_⟩
      rw [head_of e, List.getElem?_take, if_pos (by omega)]
      rfl
  · match s', hl, e with
    | [], hl, e => simp at hl; omega
    | [v], hl, e => simp at hl; omega
    | v :: v2 :: s2, hl, e =>
      obtain ⟨p, p1, p2, p3, p4⟩ := end_stk (l.drop (i + 1)) _ 1 (i + 1) e (Nat.le_refl _) (by simp)
      have en : endL l ((i + 1 : Nat) : Int) = i + 1 + p := by
        unfold endL
        rw [if_neg (by omega), Int.toNat_natCast]
        exact p3
      rw [List.drop_drop] at p4
      have p5 : stk (fun n ps => some (f n ps)) (l.drop (i + 1 + p)) = some (v2 :: s2) := p4
      rw [en]
      refine ⟨by omega, stk_lt p5, ?_⟩
      rw [head_of p5, List.getElem?_take, if_pos (by omega)]
      rfl
/-- The root of the first part has the kind that the node takes. -/
theorem first_kind {k : Int} {l : List Node} {t : Nat} (h : kindL k l = some t) {i : Nat} {x y : Node} (hx : l[i]? = some x) (hp : 1 ≤ pt x) (hy : l[i + 1]? = some y) : kd y = (opR x.1).2.1 := by
  obtain ⟨hi, rfl⟩ := List.getElem?_eq_some_iff.1 hx
  obtain ⟨_, s, hs, h2, h3⟩ := right_nodes h i hi
  obtain ⟨r, hr1, hr2, _⟩ := part_next (p := 0) (s := s) (q := i + 1) (by simpa using hs) (by omega)
  obtain rfl := Option.some.inj (hy.symm.trans hr2)
  exact h3 y (List.mem_iff_getElem?.2 ⟨0, by rw [List.getElem?_take, if_pos (by omega)]; exact hr1⟩)
theorem one_part {α : Type} {ps : List α} (h : ps.length = 1) {a : α} (h0 : ps[0]? = some a) : ps = [a] := by
  match ps, h with
  | [b], _ => simpa using h0
theorem two_parts {α : Type} {ps : List α} (h : ps.length = 2) {a b : α} (h0 : ps[0]? = some a) (h1 : ps[1]? = some b) : ps = [a, b] := by
  match ps, h with
  | [c, d], _ =>
    have e0 : c = a := by simpa using h0
    have e1 : d = b := by simpa using h1
    rw [e0, e1]
end Go.Proofs.YtmnhbokiibaopaaDoor
