/-
  The statement on the places of tokens: its walk.
-/
import Derived.Test.YtdofnjlnleofjaaDoorMp
namespace Go.Proofs.YtdofnjlnleofjaaDoor
open Go.RowKit
set_option linter.unusedVariables false
theorem skip_take : ∀ (b : Bool) (l : List UInt8), skipM b (l.take (skipM b l)) = skipM b l
  | true, [] => rfl
  | false, [] => rfl
  | true, c :: l => by
    by_cases h : ((c.toNat : Int) == 10) = true
    · have e : skipM true (c :: l) = 1 + skipM false l := by rw [skipM, if_pos h]
      rw [e, Nat.add_comm, List.take_succ_cons, skipM, if_pos h, skip_take false l]
      omega
    · have e : skipM true (c :: l) = 1 + skipM true l := by rw [skipM, if_neg h]
      rw [e, Nat.add_comm, List.take_succ_cons, skipM, if_neg h, skip_take true l]
      omega
  | false, c :: l => by
    by_cases h : blankI (c.toNat : Int) = true
    · have e : skipM false (c :: l) = 1 + skipM false l := by rw [skipM, if_pos h]
      rw [e, Nat.add_comm, List.take_succ_cons, skipM, if_pos h, skip_take false l]
      omega
    · by_cases g : ((c.toNat : Int) == 35) = true
      · have e : skipM false (c :: l) = 1 + skipM true l := by rw [skipM, if_neg h, if_pos g]
        rw [e, Nat.add_comm, List.take_succ_cons, skipM, if_neg h, if_pos g, skip_take true l]
        omega
      · have e : skipM false (c :: l) = 0 := by rw [skipM, if_neg h, if_neg g]
        rw [e, List.take_zero]
        rfl
theorem end_nil (l : List UInt8) (h0 : (firstM l).1 = 0) (h : (firstM l).2.1 = 0) : l = [] := by
  cases l with
  | nil => rfl
  | cons c l =>
    exfalso
    rw [firstM] at h h0
    split at h
    · simp at h
    · rename_i q0
      rw [if_neg q0] at h0
      split at h
      · rename_i q
        rw [if_pos q] at h0
        have := (numM_pos _ h0).2
        rw [this] at h
        simp at h
      · rename_i q
        rw [if_neg q] at h0
        split at h
        · split at h <;> simp at h
        · rename_i q1
          rw [if_neg q1] at h0
          split at h
          · simp at h
          · rename_i q2
            rw [if_neg q2] at h0
            split at h
            · rename_i q3
              rw [if_pos q3] at h0
              split at h
              · simp at h
              · rename_i q4
                rw [if_neg q4] at h0
                simp at h0
            · rename_i q3
              rw [if_neg q3] at h0
              simp at h0
theorem end_at (l : List UInt8) (a : Nat) (ha : a ≤ l.length) (h0 : (tokL l a).1 = 0) (h : (tokL l a).2.1 = 0) : begL l a = l.length := by
  have e := end_nil _ h0 h
  have := beg_le l a ha
  rw [List.drop_eq_nil_iff] at e
  omega
/-- The tokens of a text, one behind the other. -/
theorem items_step (s : ByteArray) (f a : Nat) (h : ∀ x ∈ itemsG s (f + 1) a, x.2.2.2.2 = 0) : (tokL s.data.toList a).1 = 0 ∧ itemsG s (f + 1) a = ((tokL s.data.toList a).2.1, s.extract (begL s.data.toList a) (begL s.data.toList a + (tokL s.data.toList a).2.2.1), (tokL s.data.toList a).2.2.2, (begL s.data.toList a : Int), 0) :: (if (tokL s.data.toList a).2.1 = 0 then [] else itemsG s f (begL s.data.toList a + (tokL s.data.toList a).2.2.1)) := by
  have e : (tokL s.data.toList a).1 = 0 := by
    apply Classical.byContradiction
    intro q
    rw [itemsG, if_neg q] at h
    exact q (h _ (List.mem_singleton.2 rfl))
  refine ⟨e, ?_⟩
  rw [itemsG, if_pos e]
/-- The last one is the end. -/
theorem items_last (s : ByteArray) : ∀ (f a : Nat), s.size + 1 ≤ f + a → a ≤ s.size → (∀ x ∈ itemsG s f a, x.2.2.2.2 = 0) → ∃ x, (itemsG s f a).getLast? = some x ∧ x.1 = 0
  | 0, a, h, ha, _ => by omega
  | f + 1, a, h, ha, q => by
    obtain ⟨e0, e1⟩ := items_step s f a q
    rw [e1]
    split
    · rename_i c
      exact ⟨_, rfl, c⟩
    · rename_i c
      have p := tok_pos s.data.toList a e0 c
      have t := tok_len s.data.toList a (by rw [len_of]; exact ha)
      rw [len_of] at t
      obtain ⟨b0, b1⟩ := beg_le s.data.toList a (by rw [len_of]; exact ha)
      obtain ⟨x, h1, h2⟩ := items_last s f (begL s.data.toList a + (tokL s.data.toList a).2.2.1) (by omega) t (fun x hx => q x (by rw [e1, if_neg c]; exact List.mem_cons_of_mem _ hx))
      exact ⟨x, by rw [List.getLast?_cons, h1]; rfl, h2⟩
end Go.Proofs.YtdofnjlnleofjaaDoor
