/-
  Where a tree ends; roots of trees; the document's rule for right lists, of lists.
-/
import Derived.Test.YtmnhbokiibaopaaDoorPm
namespace Go.Proofs.YtmnhbokiibaopaaDoor
open Go.RowKit
set_option linter.unusedVariables false
/-- The place behind so many trees. -/
def endC : Nat → List Node → Nat → Nat
  | _, [], _ => 0
  | m, n :: r, i => if m + pt n - 1 = 0 then i + 1 else endC (m + pt n - 1) r (i + 1)
theorem end_stk {α : Type} {jn : Node → List α → Option α} : ∀ (L : List Node) (s : List α) (m i : Nat), stk jn L = some s → 1 ≤ m → m ≤ s.length → ∃ p, 1 ≤ p ∧ p ≤ L.length ∧ endC m L i = i + p ∧ stk jn (L.drop p) = some (s.drop m)
  | [], s, m, i, h, h1, h2 => by
    simp [stk] at h
    subst h
    simp at h2
    omega
  | n :: r, s, m, i, h, h1, h2 => by
    obtain ⟨s', t, e, hl, ht, rfl⟩ := stk_some h
    rw [List.length_cons, List.length_drop] at h2
    rw [endC]
    by_cases c : m + pt n - 1 = 0
    · have hm : m = 1 := by omega
      have hp : pt n = 0 := by omega
      subst hm
      refine ⟨1, Nat.le_refl _, by simp, by rw [if_pos c], ?_⟩
      rw [List.drop_succ_cons, List.drop_zero, e, hp]
      rfl
    · obtain ⟨p, p1, p2, p3, p4⟩ := end_stk r s' (m + pt n - 1) (i + 1) e (by omega) (by omega)
      refine ⟨p + 1, by omega, by rw [List.length_cons]; omega, by rw [if_neg c, p3]; omega, ?_⟩
      rw [List.drop_succ_cons, p4]
      have : List.drop m (t :: List.drop (pt n) s') = List.drop (m + pt n - 1) s' := by
        obtain ⟨k, rfl⟩ : ∃ k, m = k + 1 := ⟨m - 1, by omega⟩
        rw [List.drop_succ_cons, List.drop_drop]
        congr 1
        omega
      rw [this]
/-- The roots of the trees of a list. -/
def rootJ (n : Node) (ps : List Node) : Option Node := some n
theorem end_root : ∀ (L : List Node) (m i : Nat), 1 ≤ m → 0 < L.length → endC m L i = i + L.length → ∃ s, stk rootJ L = some s ∧ s.length = m
  | [], m, i, h1, h2, h => by simp at h2
  | n :: r, m, i, h1, h2, h => by
    rw [endC] at h
    by_cases c : m + pt n - 1 = 0
    · rw [if_pos c] at h
      have hr : r = [] := List.length_eq_zero_iff.1 (by rw [List.length_cons] at h; omega)
      subst hr
      have hp : pt n = 0 := by omega
      refine ⟨[n], ?_, by simp; omega⟩
      rw [stk_more (n := n) (l := []) (s := []) (t := n) rfl (by rw [hp]; exact Nat.zero_le _) rfl]
      simp
    · rw [if_neg c] at h
      have hr : 0 < r.length := by
        cases r with
        | nil => simp [endC] at h
        | cons a l => simp
      obtain ⟨s, hs, hl⟩ := end_root r (m + pt n - 1) (i + 1) (by omega) hr (by rw [h, List.length_cons]; omega)
      refine ⟨n :: s.drop (pt n), stk_more hs (by omega) rfl, ?_⟩
      rw [List.length_cons, List.length_drop]
      omega
abbrev kd (n : Node) : Nat := (opR n.1).2.2.1
theorem kind_roots {k : Int} : ∀ (L : List Node) (ks : List Nat), stk (kindJ k) L = some ks → ∃ rs, stk rootJ L = some rs ∧ ks = rs.map kd
  | [], ks, h => by simp [stk] at h; subst h; exact ⟨[], rfl, rfl⟩
  | n :: r, ks, h => by
    obtain ⟨s', t, e, hl, ht, rfl⟩ := stk_some h
    obtain ⟨rs, hr, rfl⟩ := kind_roots r s' e
    refine ⟨n :: rs.drop (pt n), stk_more hr (by simpa using hl) rfl, ?_⟩
    rw [(kind_ok ht).2.1, List.map_cons, List.map_drop]
/-- The parts of a node are of the kind that it takes. -/
def partsOk (n : Node) (rs : List Node) : Prop := ∀ r ∈ rs.take (pt n), kd r = (opR n.1).2.1
theorem roots_kind {k : Int} : ∀ (L : List Node) (rs : List Node), stk rootJ L = some rs → (∀ i (h : i < L.length), nodeOk k (L[i]'h) ∧ ∀ s, stk rootJ (L.drop (i + 1)) = some s → partsOk (L[i]'h) s) → stk (kindJ k) L = some (rs.map kd)
  | [], rs, h, _ => by simp [stk] at h; subst h; rfl
  | n :: r, rs, h, H => by
    obtain ⟨s', t, e, hl, ht, rfl⟩ := stk_some h
    have ih := roots_kind r s' e (fun i hi => by
      have := H (i + 1) (by simpa using hi)
      simpa using this)
    obtain ⟨h1, h2⟩ := H 0 (by simp)
    have h3 := h2 s' (by simpa using e)
    simp only [List.getElem_cons_zero] at h1 h3
    have hj : kindJ k n ((s'.map kd).take (pt n)) = some (kd n) := by
      unfold kindJ
      rw [if_pos, if_pos ⟨h1.1, h1.2⟩]
      rw [List.all_eq_true]
      intro p hp
      rw [← List.map_take] at hp
      obtain ⟨q, hq, rfl⟩ := List.mem_map.1 hp
      have := h3 q hq
      simpa using this
    rw [stk_more ih (by simpa using hl) hj]
    injection ht with ht
    subst ht
    rw [List.map_cons, List.map_drop]
theorem stk_ne {α : Type} {jn : Node → List α → Option α} {L : List Node} (h : stk jn L = some []) : L = [] := by
  cases L with
  | nil => rfl
  | cons n r =>
    obtain ⟨s', t, e, hl, ht, q⟩ := stk_some h
    cases q
/-- A right list ends where its first tree does. -/
theorem right_end {k : Int} {l : List Node} {t : Nat} (h : kindL k l = some t) : endC 1 l 0 = l.length := by
  obtain ⟨_, hs⟩ := kindL_stk h
  obtain ⟨p, p1, p2, p3, p4⟩ := end_stk l [t] 1 0 hs (Nat.le_refl _) (Nat.le_refl _)
  have := stk_ne (by simpa using p4)
  have hl : l.length ≤ p := by
    have := congrArg List.length this
    simp at this
    omega
  omega
theorem stk_suffix {α : Type} {jn : Node → List α → Option α} : ∀ (L : List Node) (s : List α) (i : Nat), stk jn L = some s → ∃ s', stk jn (L.drop i) = some s'
  | L, s, 0, h => ⟨s, by simpa using h⟩
  | [], s, i + 1, h => ⟨s, by simpa using h⟩
  | n :: r, s, i + 1, h => by
    obtain ⟨s', t, e, _⟩ := stk_some h
    rw [List.drop_succ_cons]
    exact stk_suffix r s' i e
theorem drop_eq (l : List Node) {i : Nat} (h : i < l.length) : l.drop i = l[i]'h :: l.drop (i + 1) := List.drop_eq_getElem_cons h
/-- What is so of each node of a right list. -/
theorem right_nodes {k : Int} {l : List Node} {t : Nat} (h : kindL k l = some t) (i : Nat) (hi : i < l.length) : nodeOk k (l[i]'hi) ∧ ∃ s, stk rootJ (l.drop (i + 1)) = some s ∧ pt (l[i]'hi) ≤ s.length ∧ partsOk (l[i]'hi) s := by
  obtain ⟨_, hs⟩ := kindL_stk h
  refine ⟨kind_nodes l _ hs _ (List.getElem_mem hi), ?_⟩
  obtain ⟨s', hs'⟩ := stk_suffix l [t] i hs
  rw [drop_eq l hi] at hs'
  obtain ⟨s2, u, e, hl, ht, _⟩ := stk_some hs'
  obtain ⟨rs, hr, rfl⟩ := kind_roots _ _ e
  refine ⟨rs, hr, by simpa using hl, fun r hr' => ?_⟩
  have := (kind_ok ht).2.2 (kd r) (by rw [← List.map_take]; exact List.mem_map_of_mem hr')
  exact this
theorem right_of {k : Int} {l : List Node} (h0 : 0 < l.length) (h64 : l.length ≤ 64) (he : endC 1 l 0 = l.length) (H : ∀ i (h : i < l.length), nodeOk k (l[i]'h) ∧ ∀ s, stk rootJ (l.drop (i + 1)) = some s → partsOk (l[i]'h) s) : ∃ t, kindL k l = some t := by
  obtain ⟨rs, hr, hl⟩ := end_root l 1 0 (Nat.le_refl _) h0 (by rw [he]; omega)
  have hk := roots_kind l rs hr H
  match rs, hl with
  | [r], _ => exact ⟨kd r, by unfold kindL; rw [if_neg (by omega)]; exact fold_one _ l _ hk⟩
end Go.Proofs.YtmnhbokiibaopaaDoor
