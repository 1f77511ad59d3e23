/-
  Both ways of closing are one: the program's, which gives up at the first clock that would be less than itself, and the document's, which looks behind each round.
-/
import Derived.Test.YtjanibholjimkaaQ9
namespace Go.Proofs.Ytjanibholjimkaa
open Go.RowKit
set_option linter.unusedVariables false
def One (n : Nat) (p : Mat) : Prop := ∀ i, i ≤ n → p i i = 1
def Bad (n : Nat) (p : Mat) : Prop := ∃ i, i ≤ n ∧ p i i < 1
theorem rcStep_le (k i j : Nat) (p : Mat) (a : Nat) : rcStep k i j p a a ≤ p a a := by
  unfold rcStep
  split
  · unfold upd
    split
    · rename_i h e
      obtain ⟨rfl, rfl⟩ := e
      omega
    · omega
  · omega
theorem Bad.step {n : Nat} {p : Mat} (h : Bad n p) (k i j : Nat) : Bad n (rcStep k i j p) := by
  obtain ⟨a, ha, hb⟩ := h
  exact ⟨a, ha, by have := rcStep_le k i j p a; omega⟩
theorem Bad.row {n : Nat} {p : Mat} (h : Bad n p) (k i c : Nat) : Bad n (rcRow k i c p) := by
  induction c with
  | zero => exact h
  | succ c ih => exact ih.step _ _ _
theorem step_both {n : Nat} {p : Mat} (h : One n p) (k i j : Nat) (hi : i ≤ n) (hj : j ≤ n) :
    (cbStep k i j p = some (rcStep k i j p) ∧ One n (rcStep k i j p)) ∨ (cbStep k i j p = none ∧ Bad n (rcStep k i j p)) := by
  unfold cbStep rcStep
  by_cases c : p i j ≤ dplus (p i k) (p k j)
  · rw [if_pos c, if_neg (by omega)]
    exact .inl ⟨rfl, h⟩
  · have c' : dplus (p i k) (p k j) < p i j := by omega
    rw [if_neg c, if_pos c']
    by_cases e : i = j
    · subst e
      rw [if_pos rfl]
      refine .inr ⟨rfl, i, hi, ?_⟩
      have := h i hi
      simp [upd]
      omega
    · rw [if_neg e]
      refine .inl ⟨rfl, fun a ha => ?_⟩
      have : ¬ (a = i ∧ a = j) := by omega
      simp [upd, this]
      exact h a ha
theorem row_both {n : Nat} {p : Mat} (h : One n p) (k i : Nat) (hi : i ≤ n) (c : Nat) (hc : c ≤ n + 1) :
    (cbRow k i c p = some (rcRow k i c p) ∧ One n (rcRow k i c p)) ∨ (cbRow k i c p = none ∧ Bad n (rcRow k i c p)) := by
  induction c with
  | zero => exact .inl ⟨rfl, h⟩
  | succ c ih =>
    rcases ih (by omega) with ⟨e, o⟩ | ⟨e, b⟩
    · rcases step_both o k i c hi (by omega) with ⟨e2, o2⟩ | ⟨e2, b2⟩
      · exact .inl ⟨by simp [cbRow, e, e2, rcRow], o2⟩
      · exact .inr ⟨by simp [cbRow, e, e2], b2⟩
    · exact .inr ⟨by simp [cbRow, e], b.step _ _ _⟩
theorem all_both {n : Nat} {p : Mat} (h : One n p) (k c : Nat) (hc : c ≤ n + 1) :
    (cbAll k n c p = some (rcAll k n c p) ∧ One n (rcAll k n c p)) ∨ (cbAll k n c p = none ∧ Bad n (rcAll k n c p)) := by
  induction c with
  | zero => exact .inl ⟨rfl, h⟩
  | succ c ih =>
    rcases ih (by omega) with ⟨e, o⟩ | ⟨e, b⟩
    · rcases row_both o k c (by omega) (n + 1) (Nat.le_refl _) with ⟨e2, o2⟩ | ⟨e2, b2⟩
      · exact .inl ⟨by simp [cbAll, e, e2, rcAll], o2⟩
      · exact .inr ⟨by simp [cbAll, e, e2], b2⟩
    · exact .inr ⟨by simp [cbAll, e], b.row _ _ _⟩
theorem diagOk_iff (n : Nat) (p : Mat) (c : Nat) : diagOk n p c = true ↔ ∀ i, i < c → 1 ≤ p i i := by
  induction c with
  | zero => simp [diagOk]
  | succ c ih =>
    simp only [diagOk, Bool.and_eq_true, ih, decide_eq_true_eq]
    constructor
    · rintro ⟨a, b⟩ i hi
      by_cases e : i = c
      · subst e; exact b
      · exact a i (by omega)
    · intro h
      exact ⟨fun i hi => h i (by omega), h c (by omega)⟩
theorem One.ok {n : Nat} {p : Mat} (h : One n p) : diagOk n p (n + 1) = true := (diagOk_iff _ _ _).2 fun i hi => by have := h i (by omega); omega
end Go.Proofs.Ytjanibholjimkaa
