/-
  The program's zone of a row of bounds, and the document's, are one.
-/
import Derived.Test.YtnfkmpickmonoaaQ15
namespace Go.Proofs.Ytnfkmpickmonoaa
open Go.RowKit
set_option linter.unusedVariables false
def tgV (a x : Int) : Int := if x = 2147483647 then a else min a x
theorem tgAll_at (n : Nat) (l : List Int) (r : Mat) (k : Nat) (hk : k ≤ (n + 1) * (n + 1)) (i j : Nat) :
    tgAll n l k r i j = if i ≤ n ∧ j ≤ n ∧ i * (n + 1) + j < k then tgV (r i j) (l.getD (i * (n + 1) + j) 0) else r i j := by
  induction k with
  | zero => simp [tgAll]
  | succ k ih =>
    have ih := ih (by omega)
    have d1 : k / (n + 1) ≤ n := by have := Nat.div_lt_of_lt_mul (show k < (n + 1) * (n + 1) by omega); omega
    have d2 : k % (n + 1) ≤ n := by have := Nat.mod_lt k (show 0 < n + 1 by omega); omega
    have d3 : k / (n + 1) * (n + 1) + k % (n + 1) = k := by rw [Nat.mul_comm]; exact Nat.div_add_mod k (n + 1)
    by_cases e : i = k / (n + 1) ∧ j = k % (n + 1)
    · obtain ⟨rfl, rfl⟩ := e
      rw [if_neg (by rw [d3]; omega)] at ih
      rw [if_pos ⟨d1, d2, by rw [d3]; omega⟩, d3]
      simp only [tgAll, tg, tgV]
      split
      · exact ih
      · simp [upd, ih]
    · have e2 : tgAll n l (k + 1) r i j = tgAll n l k r i j := by
        simp only [tgAll, tg]
        split
        · rfl
        · simp [upd, e]
      rw [e2, ih]
      congr 1
      apply propext
      constructor
      · rintro ⟨a, b, c⟩
        exact ⟨a, b, by omega⟩
      · rintro ⟨a, b, c⟩
        refine ⟨a, b, ?_⟩
        apply Classical.byContradiction
        intro q
        have : i * (n + 1) + j = k / (n + 1) * (n + 1) + k % (n + 1) := by omega
        exact e (pos_inj b d2 this)
theorem clipAll_at (r : Mat) (c i j : Nat) : clipAll c r i j = if (i = j ∧ i < c) ∨ (i = 0 ∧ j < c) then min 1 (r i j) else r i j := by
  induction c with
  | zero => simp [clipAll]
  | succ c ih =>
    have s : ∀ (q : Mat) (a : Nat), clipD a q i j = if i = a ∧ j = a then min 1 (q i j) else q i j := by
      intro q a
      unfold clipD
      by_cases e : i = a ∧ j = a
      · obtain ⟨rfl, rfl⟩ := e
        by_cases c1 : 1 < q j j
        · rw [if_pos c1, if_pos ⟨rfl, rfl⟩]
          simp [upd]
          omega
        · rw [if_neg c1, if_pos ⟨rfl, rfl⟩]
          omega
      · rw [if_neg e]
        split
        · simp [upd, e]
        · rfl
    have s0 : ∀ (q : Mat) (a : Nat), clip0 a q i j = if i = 0 ∧ j = a then min 1 (q i j) else q i j := by
      intro q a
      unfold clip0
      by_cases e : i = 0 ∧ j = a
      · obtain ⟨rfl, rfl⟩ := e
        by_cases c1 : 1 < q 0 j
        · rw [if_pos c1, if_pos ⟨rfl, rfl⟩]
          simp [upd]
          omega
        · rw [if_neg c1, if_pos ⟨rfl, rfl⟩]
          omega
      · rw [if_neg e]
        split
        · simp [upd, e]
        · rfl
    simp only [clipAll]
    rw [s0, s, ih]
    repeat' split
    all_goals omega
/-- Both begin with one matrix. -/
theorem start_both (n : Nat) (l : List Int) (hi : ∀ j, j < (n + 1) * (n + 1) → l.getD j 0 ≤ 2147483647) : clipAll (n + 1) (rowMat n l) = tgAll n l ((n + 1) * (n + 1)) (startR n (n + 1) 0) := by
  funext i j
  rw [clipAll_at, tgAll_at n l _ _ (Nat.le_refl _)]
  by_cases b : i ≤ n ∧ j ≤ n
  · have lt := pos_lt b.1 b.2
    rw [if_pos (show i ≤ n ∧ j ≤ n ∧ i * (n + 1) + j < (n + 1) * (n + 1) from ⟨b.1, b.2, lt⟩)]
    have x1 := hi _ lt
    have e1 : rowMat n l i j = wideV (l.getD (i * (n + 1) + j) 0) := by simp only [rowMat, if_pos b]
    have e2 : startR n (n + 1) 0 i j = startV i j := by simp only [startR]; rw [if_pos (.inl ⟨by omega, b.2⟩)]
    rw [e1, e2]
    generalize l.getD (i * (n + 1) + j) 0 = x at *
    unfold wideV tgV startV
    repeat' split
    all_goals omega
  · have e1 : rowMat n l i j = 0 := by simp only [rowMat, if_neg b]
    have e2 : startR n (n + 1) 0 i j = 0 := by simp only [startR]; rw [if_neg (by omega)]
    rw [e1, e2, if_neg (by omega), if_neg (by omega)]
theorem listOf_zero (m : Nat) : listOf (fun _ => 0) m = List.replicate m 0 := by
  induction m with
  | zero => rfl
  | succ m ih => simp [listOf, List.range_succ, List.replicate_succ'] at *; exact ih
theorem listOf_cells (n : Nat) (p : Mat) (m : Nat) : listOf (cellsUpto n p m) m = nl n p m := by
  unfold listOf nl
  apply List.map_congr_left
  intro a ha
  have : a < m := by simpa using ha
  simp [cellsUpto, this]
/-- One answer. -/
theorem of_same (n : Nat) (l : List Int) (hl : l.length = (n + 1) * (n + 1)) (hi : ∀ j, j < (n + 1) * (n + 1) → l.getD j 0 ≤ 2147483647) :
    refOf n l = (zoneR n (tgAll n l l.length (startR n (n + 1) 0))).map (fun c => listOf c ((n + 1) * (n + 1))) := by
  have s := start_both n l hi
  have d : ∀ i, i ≤ n → tgAll n l ((n + 1) * (n + 1)) (startR n (n + 1) 0) i i ≤ 1 := by
    intro i h
    rw [← s, clipAll_at, if_pos (.inl ⟨rfl, by omega⟩)]
    omega
  unfold refOf madeR zoneR
  rw [hl, s, ← close_both d]
  cases closeR n (tgAll n l ((n + 1) * (n + 1)) (startR n (n + 1) 0)) with
  | none => simp [listOf_zero]
  | some p =>
    simp only
    split
    · simp [listOf_cells]
    · rfl
end Go.Proofs.Ytnfkmpickmonoaa
