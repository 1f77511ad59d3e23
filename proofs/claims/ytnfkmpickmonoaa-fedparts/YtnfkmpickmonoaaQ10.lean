/-
  Both ways of closing are one: the program's, which gives up at the first clock that would be less than itself, and the document's, which looks behind each round.
-/
import Derived.Test.YtnfkmpickmonoaaQ9
namespace Go.Proofs.Ytnfkmpickmonoaa
open Go.RowKit
set_option linter.unusedVariables false
def One (n : Nat) (p : Mat) : Prop := ∀ i, i ≤ n → p i i = 1
def Bad (n : Nat) (p : Mat) : Prop := ∃ i, i ≤ n ∧ p i i < 1
theorem rcStep_le (k i j : Nat) (p : Mat) (a : Nat) : rcStep k i j p a a ≤ p a a := by
  unfold rcStep
  split
  · unfold upd
    split
    · rename_i h e
      obtain ⟨rfl, rfl⟩ := e
      omega
    · omega
  · omega
theorem Bad.step {n : Nat} {p : Mat} (h : Bad n p) (k i j : Nat) : Bad n (rcStep k i j p) := by
  obtain ⟨a, ha, hb⟩ := h
  exact ⟨a, ha, by have := rcStep_le k i j p a; omega⟩
theorem Bad.row {n : Nat} {p : Mat} (h : Bad n p) (k i c : Nat) : Bad n (rcRow k i c p) := by
  induction c with
  | zero => exact h
  | succ c ih => exact ih.step _ _ _
theorem Bad.all {n : Nat} {p : Mat} (h : Bad n p) (k m c : Nat) : Bad n (rcAll k m c p) := by
  induction c with
  | zero => exact h
  | succ c ih => exact ih.row _ _ _
theorem step_both {n : Nat} {p : Mat} (h : One n p) (k i j : Nat) (hi : i ≤ n) (hj : j ≤ n) :
    (cbStep k i j p = some (rcStep k i j p) ∧ One n (rcStep k i j p)) ∨ (cbStep k i j p = none ∧ Bad n (rcStep k i j p)) := by
  unfold cbStep rcStep
  by_cases c : p i j ≤ dplus (p i k) (p k j)
  · rw [if_pos c, if_neg (by omega)]
    exact .inl ⟨rfl, h⟩
  · have c' : dplus (p i k) (p k j) < p i j := by omega
    rw [if_neg c, if_pos c']
    by_cases e : i = j
    · subst e
      rw [if_pos rfl]
      refine .inr ⟨rfl, i, hi, ?_⟩
      have := h i hi
      simp [upd]
      omega
    · rw [if_neg e]
      refine .inl ⟨rfl, fun a ha => ?_⟩
      have : ¬ (a = i ∧ a = j) := by omega
      simp [upd, this]
      exact h a ha
theorem row_both {n : Nat} {p : Mat} (h : One n p) (k i : Nat) (hi : i ≤ n) (c : Nat) (hc : c ≤ n + 1) :
    (cbRow k i c p = some (rcRow k i c p) ∧ One n (rcRow k i c p)) ∨ (cbRow k i c p = none ∧ Bad n (rcRow k i c p)) := by
  induction c with
  | zero => exact .inl ⟨rfl, h⟩
  | succ c ih =>
    rcases ih (by omega) with ⟨e, o⟩ | ⟨e, b⟩
    · rcases step_both o k i c hi (by omega) with ⟨e2, o2⟩ | ⟨e2, b2⟩
      · exact .inl ⟨by simp [cbRow, e, e2, rcRow], o2⟩
      · exact .inr ⟨by simp [cbRow, e, e2], b2⟩
    · exact .inr ⟨by simp [cbRow, e], b.step _ _ _⟩
theorem all_both {n : Nat} {p : Mat} (h : One n p) (k c : Nat) (hc : c ≤ n + 1) :
    (cbAll k n c p = some (rcAll k n c p) ∧ One n (rcAll k n c p)) ∨ (cbAll k n c p = none ∧ Bad n (rcAll k n c p)) := by
  induction c with
  | zero => exact .inl ⟨rfl, h⟩
  | succ c ih =>
    rcases ih (by omega) with ⟨e, o⟩ | ⟨e, b⟩
    · rcases row_both o k c (by omega) (n + 1) (Nat.le_refl _) with ⟨e2, o2⟩ | ⟨e2, b2⟩
      · exact .inl ⟨by simp [cbAll, e, e2, rcAll], o2⟩
      · exact .inr ⟨by simp [cbAll, e, e2], b2⟩
    · exact .inr ⟨by simp [cbAll, e], b.row _ _ _⟩
theorem diagOk_iff (n : Nat) (p : Mat) (c : Nat) : diagOk n p c = true ↔ ∀ i, i < c → 1 ≤ p i i := by
  induction c with
  | zero => simp [diagOk]
  | succ c ih =>
    simp only [diagOk, Bool.and_eq_true, ih, decide_eq_true_eq]
    constructor
    · rintro ⟨a, b⟩ i hi
      by_cases e : i = c
      · subst e; exact b
      · exact a i (by omega)
    · intro h
      exact ⟨fun i hi => h i (by omega), h c (by omega)⟩
theorem One.ok {n : Nat} {p : Mat} (h : One n p) : diagOk n p (n + 1) = true := (diagOk_iff _ _ _).2 fun i hi => by have := h i (by omega); omega
theorem Bad.no {n : Nat} {p : Mat} (h : Bad n p) : diagOk n p (n + 1) = false := by
  cases e : diagOk n p (n + 1)
  · rfl
  · obtain ⟨i, hi, hb⟩ := h
    have := (diagOk_iff _ _ _).1 e i (by omega)
    omega
theorem rounds_both {n : Nat} {r : Mat} (h : One n r) (c : Nat) (hc : c ≤ n + 1) : clAll n c r = rcl n c r ∧ ∀ q, rcl n c r = some q → One n q := by
  induction c with
  | zero => exact ⟨rfl, fun q e => by simp [rcl] at e; subst e; exact h⟩
  | succ c ih =>
    obtain ⟨e, o⟩ := ih (by omega)
    cases er : rcl n c r with
    | none => simp [clAll, rcl, e, er]
    | some q =>
      rcases all_both (o q er) c (n + 1) (Nat.le_refl _) with ⟨e2, o2⟩ | ⟨e2, b2⟩
      · have k := o2.ok
        refine ⟨by simp [clAll, rcl, e, er, e2, k], fun q' h' => ?_⟩
        simp [rcl, er, k] at h'
        subst h'
        exact o2
      · have k := b2.no
        exact ⟨by simp [clAll, rcl, e, er, e2, k], fun q' h' => by simp [rcl, er, k] at h'⟩
/-- A matrix whose own differences are at most 0 is closed alike by both. -/
theorem close_both {n : Nat} {r : Mat} (h : ∀ i, i ≤ n → r i i ≤ 1) : closeR n r = rcl n (n + 1) r := by
  unfold closeR
  cases d : diagOk n r (n + 1)
  · simp only [Bool.false_eq_true, if_false]
    have b : Bad n r := by
      apply Classical.byContradiction
      intro hb
      have : diagOk n r (n + 1) = true := (diagOk_iff _ _ _).2 fun i hi => by
        apply Classical.byContradiction
        intro q
        exact hb ⟨i, by omega, by omega⟩
      rw [this] at d
      cases d
    symm
    refine rcl_none (c := 1) (n + 1) (by omega) ?_
    have k := (b.all 0 n (n + 1)).no
    simp [rcl, k]
  · simp only [if_true]
    have o : One n r := fun i hi => by
      have := (diagOk_iff _ _ _).1 d i (by omega)
      have := h i hi
      omega
    exact (rounds_both o (n + 1) (Nat.le_refl _)).1
end Go.Proofs.Ytnfkmpickmonoaa
