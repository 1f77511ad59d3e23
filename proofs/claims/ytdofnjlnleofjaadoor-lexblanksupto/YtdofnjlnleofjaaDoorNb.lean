/-
  Blanks and a remark more: the tokens of the new text.
-/
import Derived.Test.YtdofnjlnleofjaaDoorNa
namespace Go.Proofs.YtdofnjlnleofjaaDoor
open Go.RowKit
set_option linter.unusedVariables false
/-- The new text. -/
def moreT (l : List UInt8) (m : Nat) (r : List UInt8) : List UInt8 := l.take m ++ (moreL r ++ l.drop m)
theorem moreT_far (l : List UInt8) (m : Nat) (r : List UInt8) (hm : m ≤ l.length) (a : Nat) (ha : m ≤ a) : (moreT l m r).drop (a + (moreL r).length) = l.drop a := by
  unfold moreT
  have h1 : (l.take m).length = m := by rw [List.length_take]; omega
  rw [List.drop_append, List.drop_eq_nil_of_le (by omega), List.nil_append, h1, List.drop_append, List.drop_eq_nil_of_le (by omega), List.nil_append, List.drop_drop]
  congr 1
  omega
theorem moreT_near (l : List UInt8) (m : Nat) (r : List UInt8) (hm : m ≤ l.length) (a : Nat) (ha : a ≤ m) : (moreT l m r).drop a = (l.take m).drop a ++ (moreL r ++ l.drop m) ∧ l.drop a = (l.take m).drop a ++ l.drop m := by
  have h1 : (l.take m).length = m := by rw [List.length_take]; omega
  constructor
  · unfold moreT
    rw [List.drop_append_of_le_length (by omega)]
  · conv => lhs; rw [← List.take_append_drop m l]
    rw [List.drop_append_of_le_length (by omega)]
/-- Where the token itself stands. -/
theorem more_here (l : List UInt8) (m : Nat) (r : List UInt8) (hm : m ≤ l.length) (hr : ∀ c ∈ r, ¬ c = 10) (a : Nat) (ha : a ≤ m) (hb : begL l a = m) : begL (moreT l m r) a = m + (moreL r).length ∧ tokL (moreT l m r) a = tokL l a := by
  obtain ⟨n1, n2⟩ := moreT_near l m r hm a ha
  have h1 : ((l.take m).drop a).length = m - a := by rw [List.length_drop, List.length_take]; omega
  have sk : skipM false ((l.take m).drop a ++ l.drop m) = m - a := by
    rw [← n2]
    unfold begL at hb
    omega
  have t1 := skip_through (l.drop m) (moreL r ++ l.drop m) false ((l.take m).drop a) (by omega)
  have t2 := skip_through (l.drop m) (l.drop m) false ((l.take m).drop a) (by omega)
  rw [more_skip r _ hr] at t1
  have z : skipM false (l.drop m) = 0 := by
    cases e : modeM false ((l.take m).drop a)
    · rw [e] at t2
      omega
    · rw [e] at t2
      cases q : l.drop m with
      | nil => rfl
      | cons c p =>
        exfalso
        rw [q] at t2 sk
        have : 1 ≤ skipM true (c :: p) := by rw [skipM]; split <;> omega
        omega
  have b : begL (moreT l m r) a = m + (moreL r).length := by
    unfold begL
    rw [n1, t1, z]
    omega
  refine ⟨b, ?_⟩
  unfold tokL
  rw [b, hb, moreT_far l m r hm m (Nat.le_refl _)]
/-- A token ahead. -/
theorem more_ahead (l : List UInt8) (m : Nat) (r : List UInt8) (hm : m ≤ l.length) (a : Nat) (ha : a ≤ m) (h0 : (tokL l a).1 = 0) (hk : ¬ (tokL l a).2.1 = 0) (hb : begL l a + (tokL l a).2.2.1 ≤ m) : begL (moreT l m r) a = begL l a ∧ tokL (moreT l m r) a = tokL l a := by
  obtain ⟨n1, n2⟩ := moreT_near l m r hm a ha
  have bl := (beg_le l a (by omega)).1
  have ps := tok_pos l a h0 hk
  have tl := tok_len l a (by omega)
  -- what is skipped, the token, and the rest
  have lb : (l.take m).length = m := by rw [List.length_take]; omega
  have cut : ∀ R : List UInt8, (l.take m).drop a ++ R = ((l.take m).drop a).take (begL l a - a) ++ ((l.take m).drop (begL l a) ++ R) := fun R => by
    conv => lhs; rw [← List.take_append_drop (begL l a - a) ((l.take m).drop a)]
    rw [List.append_assoc, List.drop_drop]
    congr 3
    omega
  have al : (((l.take m).drop a).take (begL l a - a)).length = begL l a - a := by rw [List.length_take, List.length_drop, lb]; omega
  obtain ⟨c, T, hT⟩ : ∃ c T, (l.take m).drop (begL l a) = c :: T := by
    cases e : (l.take m).drop (begL l a) with
    | nil => rw [List.drop_eq_nil_iff] at e; omega
    | cons c T => exact ⟨c, T, rfl⟩
  have s1 : skipM false (l.drop a) = begL l a - a := by unfold begL; omega
  have b : begL (moreT l m r) a = begL l a := by
    have : skipM false ((moreT l m r).drop a) = begL l a - a := by
      rw [n2, cut, hT, List.cons_append] at s1
      rw [n1, cut, hT, List.cons_append]
      have := skip_local c (T ++ l.drop m) (T ++ (moreL r ++ l.drop m)) false _ (by rw [al]; exact s1)
      rw [al] at this
      exact this
    unfold begL at this ⊢
    rw [this]
    omega
  refine ⟨b, ?_⟩
  have d1 := (moreT_near l m r hm (begL l a) (by omega)).1
  have d2 := (moreT_near l m r hm (begL l a) (by omega)).2
  have sp : ∀ R : List UInt8, (l.take m).drop (begL l a) ++ R = ((l.take m).drop (begL l a)).take (tokL l a).2.2.1 ++ ((l.take m).drop (begL l a + (tokL l a).2.2.1) ++ R) := fun R => by
    conv => lhs; rw [← List.take_append_drop (tokL l a).2.2.1 ((l.take m).drop (begL l a))]
    rw [List.append_assoc, List.drop_drop]
  have tlen : (((l.take m).drop (begL l a)).take (tokL l a).2.2.1).length = (tokL l a).2.2.1 := by rw [List.length_take, List.length_drop, lb]; omega
  have f0 : firstM (l.drop (begL l a)) = tokL l a := rfl
  have f1 : firstM (((l.take m).drop (begL l a)).take (tokL l a).2.2.1 ++ ((l.take m).drop (begL l a + (tokL l a).2.2.1) ++ l.drop m)) = (0, (tokL l a).2.1, (((l.take m).drop (begL l a)).take (tokL l a).2.2.1).length, (tokL l a).2.2.2) := by
    rw [← sp, ← d2, f0, tlen]
    generalize tokL l a = z at *
    obtain ⟨z0, z1, z2, z3⟩ := z
    simp only at h0
    rw [h0]
  have f2 := first_ext _ _ ((l.take m).drop (begL l a + (tokL l a).2.2.1) ++ (moreL r ++ l.drop m)) _ _ f1 hk (by
    by_cases q : begL l a + (tokL l a).2.2.1 = m
    · right
      rw [q, List.drop_eq_nil_of_le (by omega)]
      rfl
    · left
      cases e : (l.take m).drop (begL l a + (tokL l a).2.2.1) with
      | nil => rw [List.drop_eq_nil_iff] at e; omega
      | cons x y => rfl)
  rw [← sp, ← d1, tlen] at f2
  show firstM ((moreT l m r).drop (begL (moreT l m r) a)) = _
  rw [b, f2]
  generalize tokL l a = z at *
  obtain ⟨z0, z1, z2, z3⟩ := z
  simp only at h0
  rw [h0]
/-- Behind the new bytes. -/
theorem more_behind (l : List UInt8) (m : Nat) (r : List UInt8) (hm : m ≤ l.length) (a : Nat) (ha : m ≤ a) : begL (moreT l m r) (a + (moreL r).length) = begL l a + (moreL r).length ∧ tokL (moreT l m r) (a + (moreL r).length) = tokL l a := by
  have e := moreT_far l m r hm a ha
  have b : begL (moreT l m r) (a + (moreL r).length) = begL l a + (moreL r).length := by
    unfold begL
    rw [e]
    omega
  refine ⟨b, ?_⟩
  unfold tokL
  rw [b, moreT_far l m r hm (begL l a) (by unfold begL; omega)]
end Go.Proofs.YtdofnjlnleofjaaDoor
