/-
  What cells of zones are; what both say of zones.
-/
import Derived.Test.YtfamdajjfpjlaaaDoorEl
import Derived.Test.YtfamdajjfpjlaaaDoorDq
namespace Go.Proofs.YtfamdajjfpjlaaaDoor
open Go.RowKit
set_option linter.unusedVariables false
set_option maxRecDepth 100000
theorem narB_range (x : Int) : -2147483648 ≤ narB x ∧ narB x ≤ 2147483647 := by
  unfold narB
  split
  · omega
  · split <;> omega
theorem narB_right (x : Int) : rightB (narB x) = true := by
  unfold narB rightB
  split
  · simp
  · split
    · simp
    · simp; omega
theorem Made.range {n : Nat} {c : Row} (h : Made n c) (j : Nat) : -2147483648 ≤ c j ∧ c j ≤ 2147483647 := by
  obtain ⟨r, -, h⟩ := h
  unfold zoneR at h
  split at h
  · cases h
    exact ⟨by show (-2147483648 : Int) ≤ 0; omega, by show (0 : Int) ≤ 2147483647; omega⟩
  · split at h
    · cases h
      unfold cellsUpto
      split
      · exact narB_range _
      · omega
    · cases h
theorem Made.right {n : Nat} {c : Row} (h : Made n c) (j : Nat) : rightB (c j) = true := by
  obtain ⟨r, -, h⟩ := h
  unfold zoneR at h
  split at h
  · cases h
    rfl
  · split at h
    · cases h
      unfold cellsUpto
      split
      · exact narB_right _
      · rfl
    · cases h
theorem Made.zero {n : Nat} {c : Row} (h : Made n c) (j : Nat) (hj : (n + 1) * (n + 1) ≤ j) : c j = 0 := by
  obtain ⟨r, -, h⟩ := h
  unfold zoneR at h
  split at h
  · cases h
    rfl
  · split at h
    · cases h
      unfold cellsUpto
      rw [if_neg (by omega)]
    · cases h
theorem close_one {n : Nat} {r p : Mat} (h : ∀ i, i ≤ n → r i i ≤ 1) (e : closeR n r = some p) : One n p := by
  have e' := e
  rw [close_both h] at e'
  unfold closeR at e
  cases d : diagOk n r (n + 1)
  · rw [d] at e
    cases e
  · have o : One n r := fun i hi => by
      have := (diagOk_iff _ _ _).1 d i (by omega)
      have := h i hi
      omega
    exact (rounds_both o (n + 1) (Nat.le_refl _)).2 p e'
theorem narB_one : narB 1 = 1 := by decide
/-- A zone's first cell: at most 0, or it is empty. -/
theorem Made.head {n : Nat} {c : Row} (h : Made n c) : c 0 = 1 ∨ ∀ j, c j = 0 := by
  obtain ⟨r, hd, h⟩ := h
  unfold zoneR at h
  split at h
  · cases h
    exact .inr fun _ => rfl
  · rename_i p e
    split at h
    · cases h
      left
      have := close_one hd e 0 (by omega)
      unfold cellsUpto flat
      rw [if_pos (Nat.mul_pos (by omega) (by omega)), Nat.zero_div, Nat.zero_mod, this]
      exact narB_one
    · cases h
theorem tgV_two (a x y : Int) (hx : x ≤ 2147483647) (hy : y ≤ 2147483647) : tgV (tgV a x) y = tgV a (min x y) := by
  unfold tgV
  by_cases c1 : x = 2147483647
  · by_cases c2 : y = 2147483647
    · simp [c1, c2]
    · rw [if_pos c1, if_neg c2, show min x y = y by omega, if_neg c2]
  · by_cases c2 : y = 2147483647
    · rw [if_neg c1, if_pos c2, show min x y = x by omega, if_neg c1]
    · rw [if_neg c1, if_neg c2, if_neg (by omega)]
      omega
def minR (c d : Row) : Row := fun j => min (c j) (d j)
theorem tgAll_two (n m : Nat) (c d : Row) (r : Mat) (hm : m = (n + 1) * (n + 1)) (hc : ∀ j, c j ≤ 2147483647) (hd : ∀ j, d j ≤ 2147483647) :
    tgAll n (listOf d m) m (tgAll n (listOf c m) m r) = tgAll n (listOf (minR c d) m) m r := by
  funext i j
  have hk : m ≤ (n + 1) * (n + 1) := by omega
  rw [tgAll_at _ _ _ _ hk, tgAll_at _ _ _ _ hk, tgAll_at _ _ _ _ hk]
  by_cases q : i ≤ n ∧ j ≤ n ∧ i * (n + 1) + j < m
  · rw [if_pos q, if_pos q, if_pos q, listOf_get _ _ _ q.2.2, listOf_get _ _ _ q.2.2, listOf_get _ _ _ q.2.2]
    exact tgV_two _ _ _ (hc _) (hd _)
  · rw [if_neg q, if_neg q, if_neg q]
theorem allRight_of (l : List Int) (m : Nat) (h : ∀ j, j < m → rightB (l.getD j 0) = true) : allRight l m = true := by
  induction m with
  | zero => rfl
  | succ m ih => simp only [allRight, ih (fun j hj => h j (by omega)), h m (by omega), Bool.and_self]
/-- What the document's Meets says of the answer of Of. -/
def meetsOf : Option Row → Bool
  | none => true
  | some e => !(e 0 != 1)
theorem meets_same (n : Nat) (r : Mat) (h : ∀ i, i ≤ n → r i i ≤ 1) : (closeR n r).isSome = meetsOf (zoneR n r) := by
  unfold zoneR
  cases e : closeR n r with
  | none => rfl
  | some p =>
    show true = meetsOf (if _ then _ else _)
    split
    · have := close_one h e 0 (by omega)
      show true = !(cellsUpto n p ((n + 1) * (n + 1)) 0 != 1)
      unfold cellsUpto flat
      rw [if_pos (Nat.mul_pos (by omega) (by omega)), Nat.zero_div, Nat.zero_mod, this, narB_one]
      rfl
    · rfl
theorem start_diag (n : Nat) (l : List Int) (m : Nat) (hm : m = (n + 1) * (n + 1)) (hi : ∀ j, j < m → l.getD j 0 ≤ 2147483647) (i : Nat) (h : i ≤ n) : tgAll n l m (startR n (n + 1) 0) i i ≤ 1 := by
  subst hm
  rw [← start_both n l hi, clipAll_at, if_pos (.inl ⟨rfl, by omega⟩)]
  omega
/-! ### Equal -/
theorem scUpto_iff (l m : List Int) (k : Nat) : scUpto l m k = true ↔ ∀ j, j < k → l.getD j 0 = m.getD j 0 := by
  induction k with
  | zero => simp [scUpto]
  | succ k ih =>
    simp only [scUpto, Bool.and_eq_true, ih, beq_iff_eq]
    constructor
    · rintro ⟨a, b⟩ j hj
      by_cases e : j = k
      · subst e; exact b
      · exact a j (by omega)
    · intro h
      exact ⟨fun j hj => h j (by omega), h k (by omega)⟩
theorem equal_same {n m : Nat} {c d : Row} (hc : Made n c) (hd : Made n d) (hm : m = (n + 1) * (n + 1)) (h81 : m ≤ 81) : eqUpto c d 81 = scUpto (listOf c m) (listOf d m) m := by
  rw [Bool.eq_iff_iff, scUpto_iff]
  simp only [eqUpto, List.all_eq_true, List.mem_range, beq_iff_eq]
  constructor
  · intro h j hj
    rw [listOf_get _ _ _ hj, listOf_get _ _ _ hj]
    exact h j (by omega)
  · intro h j hj
    by_cases q : j < m
    · have := h j q
      rw [listOf_get _ _ _ q, listOf_get _ _ _ q] at this
      exact this
    · rw [hc.zero j (by omega), hd.zero j (by omega)]
/-! ### Includes -/
theorem nless_iff (c d : Row) (m : Nat) : nless c d m = true ↔ ∀ j, j < m → d j ≤ c j := by
  induction m with
  | zero => simp [nless]
  | succ m ih =>
    simp only [nless, Bool.and_eq_true, ih, decide_eq_true_eq]
    constructor
    · rintro ⟨a, b⟩ j hj
      by_cases e : j = m
      · subst e; exact b
      · exact a j (by omega)
    · intro h
      exact ⟨fun j hj => h j (by omega), h m (by omega)⟩
/-- What the document's Includes says. -/
def rincB (c d : Row) (m : Nat) : Bool := if (d 0 != 1) = true then true else if (c 0 != 1) = true then false else nless c d m
theorem inc_same {n m : Nat} {c d : Row} (hc : Made n c) (hd : Made n d) (hm : 0 < m) : rincB c d m = (decide (d 0 < 1) || nless c d m) := by
  unfold rincB
  rcases hd.head with h | h
  · rw [if_neg (by simp [h]), h]
    rcases hc.head with h' | h'
    · rw [if_neg (by simp [h'])]
      simp
    · rw [if_pos (by simp [h'])]
      have : nless c d m = false := by
        cases e : nless c d m
        · rfl
        · have := (nless_iff _ _ _).1 e 0 hm
          rw [h, h'] at this
          omega
      rw [this]
      rfl
  · rw [if_pos (by simp [h]), h]
    simp
end Go.Proofs.YtfamdajjfpjlaaaDoor
