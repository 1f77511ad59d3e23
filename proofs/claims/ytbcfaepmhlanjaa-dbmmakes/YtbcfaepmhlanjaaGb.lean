/-
  The document's Limits, of rows of limits: Infs, and the strictest bounds of each difference.
-/
import Derived.Test.YtbcfaepmhlanjaaGa
namespace Go.Proofs.Ytbcfaepmhlanjaa
open Go.RowKit
set_option linter.unusedVariables false
set_option maxRecDepth 100000
def posL (n : Nat) (L : Lims) (k : Nat) : Nat := (L.i k).toNat * (n + 1) + (L.j k).toNat
/-- The strictest bounds, in the place of Inf. -/
def rlAll (n : Nat) (L : Lims) : Nat → Row
  | 0 => fun _ => 2147483647
  | k + 1 => if L.b k < rlAll n L k (posL n L k) then updR (rlAll n L k) (posL n L k) (L.b k) else rlAll n L k
theorem rl_le (n : Nat) (L : Lims) (k : Nat) (p : Nat) : rlAll n L k p ≤ 2147483647 := by
  induction k with
  | zero => exact Int.le_refl _
  | succ k ih =>
    unfold rlAll
    split
    · rename_i h
      unfold updR
      split
      · rename_i e
        subst e
        omega
      · exact ih
    · exact ih
theorem okAll_at {n : Nat} {L : Lims} {m : Nat} (h : okAll n L m = true) (k : Nat) (hk : k < m) : okL n L k = true := by
  induction m with
  | zero => omega
  | succ m ih =>
    simp only [okAll, Bool.and_eq_true] at h
    by_cases e : k = m
    · subst e; exact h.2
    · exact ih h.1 (by omega)
theorem okAll_le {n : Nat} {L : Lims} {m k : Nat} (h : okAll n L m = true) (hk : k ≤ m) : okAll n L k = true := by
  cases e : okAll n L k
  · rw [okAll_false m hk e] at h
    cases h
  · rfl
theorem okL_iff {n : Nat} {L : Lims} {k : Nat} (h : okL n L k = true) : (0 ≤ L.i k ∧ L.i k ≤ n) ∧ (0 ≤ L.j k ∧ L.j k ≤ n) ∧ rightB (L.b k) = true := by
  unfold okL at h
  simp only [Bool.and_eq_true, decide_eq_true_eq] at h
  exact ⟨⟨h.1.1, h.1.2.1⟩, ⟨h.1.2.2.1, h.1.2.2.2⟩, h.2⟩
theorem rl_right {n : Nat} {L : Lims} {k : Nat} (h : okAll n L k = true) (p : Nat) : rightB (rlAll n L k p) = true := by
  induction k with
  | zero => rfl
  | succ k ih =>
    have ih := ih (okAll_le h (by omega))
    have r := (okL_iff (okAll_at h k (by omega))).2.2
    unfold rlAll
    split
    · unfold updR
      split
      · exact r
      · exact ih
    · exact ih
theorem tl_at {n : Nat} {L : Lims} {k : Nat} (h : okAll n L k = true) (r : Mat) (i j : Nat) :
    tlAll L k r i j = if i ≤ n ∧ j ≤ n then tgV (r i j) (rlAll n L k (i * (n + 1) + j)) else r i j := by
  induction k with
  | zero =>
    show r i j = _
    unfold rlAll tgV
    split
    · rw [if_pos rfl]
    · rfl
  | succ k ih =>
    have ih := ih (okAll_le h (by omega))
    obtain ⟨⟨i0, i1⟩, ⟨j0, j1⟩, rb⟩ := okL_iff (okAll_at h k (by omega))
    have le := rl_le n L k
    have bl : L.b k ≤ 2147483647 := by unfold rightB at rb; simp at rb; omega
    have st : tlAll L (k + 1) r i j = if i = (L.i k).toNat ∧ j = (L.j k).toNat then tgV (tlAll L k r i j) (L.b k) else tlAll L k r i j := by
      show tg (tlAll L k r) (L.i k).toNat (L.j k).toNat (L.b k) i j = _
      unfold tg tgV
      split
      · split <;> rfl
      · unfold upd
        split
        · rename_i e
          rw [e.1, e.2]
        · rfl
    have rs : rlAll n L (k + 1) = if L.b k < rlAll n L k (posL n L k) then updR (rlAll n L k) (posL n L k) (L.b k) else rlAll n L k := rfl
    rw [st, ih]
    by_cases q : i ≤ n ∧ j ≤ n
    · rw [if_pos q, if_pos q]
      by_cases e : i = (L.i k).toNat ∧ j = (L.j k).toNat
      · rw [if_pos e, tgV_two _ _ _ (le _) bl]
        congr 1
        rw [rs, show posL n L k = i * (n + 1) + j by unfold posL; rw [← e.1, ← e.2]]
        split
        · unfold updR
          rw [if_pos rfl]
          omega
        · omega
      · rw [if_neg e]
        congr 1
        rw [rs]
        split
        · unfold updR
          rw [if_neg]
          intro e'
          unfold posL at e'
          have := pos_inj (n := n) q.2 (by omega) e'
          exact e this
        · rfl
    · rw [if_neg q, if_neg q, if_neg (by rintro ⟨a, b⟩; exact q ⟨by omega, by omega⟩)]
/-- Both drafts are one. -/
theorem lims_same {n : Nat} {L : Lims} {k m : Nat} (hm : m = (n + 1) * (n + 1)) (h : okAll n L k = true) : tgAll n (listOf (rlAll n L k) m) m (startR n (n + 1) 0) = tlAll L k (startR n (n + 1) 0) := by
  funext i j
  rw [tgAll_at _ _ _ _ (by omega), tl_at h]
  by_cases q : i ≤ n ∧ j ≤ n
  · have lt : i * (n + 1) + j < m := by rw [hm]; exact pos_lt q.1 q.2
    rw [if_pos ⟨q.1, q.2, lt⟩, if_pos q, listOf_get _ _ _ lt]
  · rw [if_neg q, if_neg (by rintro ⟨a, b, _⟩; exact q ⟨a, b⟩)]
end Go.Proofs.Ytbcfaepmhlanjaa
