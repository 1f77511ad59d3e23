/-
  Blanks and a remark more: the items of the new text.
-/
import Derived.Test.YtdofnjlnleofjaaDoorNb
namespace Go.Proofs.YtdofnjlnleofjaaDoor
open Go.RowKit
set_option linter.unusedVariables false
def shiftI (d : Nat) (x : Item) : Item := (x.1, x.2.1, x.2.2.1, x.2.2.2.1 + (d : Int), x.2.2.2.2)
theorem ext_take (s : ByteArray) (b n : Nat) : (s.extract b (b + n)).data.toList = (s.data.toList.drop b).take n := by
  simp only [ByteArray.data_extract, Array.toList_extract, List.extract_eq_take_drop]
  congr 1
  omega
theorem ext_same (s t : ByteArray) (b c n : Nat) (h : (s.data.toList.drop b).take n = (t.data.toList.drop c).take n) : s.extract b (b + n) = t.extract c (c + n) := by
  apply ByteArray.ext
  apply Array.toList_inj.1
  rw [ext_take, ext_take]
  exact h
theorem first_of (A : List Item) (x : Item) (r : List Item) (e : A = x :: r) (h : 0 < A.length) : A[0]'h = x := by
  subst e
  rfl
theorem items_ge (s : ByteArray) : ∀ (f a : Nat) (x : Item), x ∈ itemsG s f a → (a : Int) ≤ x.2.2.2.1
  | 0, a, x, h => by rw [itemsG] at h; cases h
  | f + 1, a, x, h => by
    have bl : a ≤ begL s.data.toList a := by unfold begL; omega
    rw [itemsG] at h
    split at h
    · rcases List.mem_cons.1 h with rfl | h
      · show (a : Int) ≤ (begL s.data.toList a : Int)
        omega
      · split at h
        · cases h
        · have := items_ge s f _ x h
          omega
    · rw [List.mem_singleton.1 h]
      show (a : Int) ≤ (begL s.data.toList a : Int)
      omega
theorem items_shift (s t : ByteArray) (m : Nat) (r : List UInt8) (hm : m ≤ s.size) (ht : t.data.toList = moreT s.data.toList m r) (hz : t.size = s.size + (moreL r).length) : ∀ (f f' a : Nat), m ≤ a → a ≤ s.size → s.size + 1 ≤ f + a → t.size + 1 ≤ f' + (a + (moreL r).length) → itemsG t f' (a + (moreL r).length) = (itemsG s f a).map (shiftI (moreL r).length)
  | 0, f', a, _, h1, h2, _ => by omega
  | f + 1, 0, a, _, h1, _, h3 => by omega
  | f + 1, f' + 1, a, h0, h1, h2, h3 => by
    have hm' : m ≤ s.data.toList.length := by rw [len_of]; exact hm
    obtain ⟨e1, e2⟩ := more_behind s.data.toList m r hm' a h0
    rw [itemsG, itemsG, ht, e1, e2]
    have bl := beg_le s.data.toList a (by rw [len_of]; exact h1)
    have tl := tok_len s.data.toList a (by rw [len_of]; exact h1)
    rw [len_of] at tl
    split
    · rename_i c
      rw [List.map_cons]
      congr 1
      · unfold shiftI
        have := ext_same t s (begL s.data.toList a + (moreL r).length) (begL s.data.toList a) (tokL s.data.toList a).2.2.1 (by rw [ht, moreT_far s.data.toList m r hm' _ (by omega)])
        rw [this]
        simp
      · split
        · rfl
        · rename_i d
          have p := tok_pos s.data.toList a c d
          have := items_shift s t m r hm ht hz f f' (begL s.data.toList a + (tokL s.data.toList a).2.2.1) (by omega) tl (by omega) (by omega)
          rw [← this]
          congr 1
          omega
    · simp [shiftI]
/-- The tokens ahead of the new bytes stand where they stood, the others further behind. -/
theorem items_more (s t : ByteArray) (m : Nat) (r : List UInt8) (hm : m ≤ s.size) (hr : ∀ c ∈ r, ¬ c = 10) (ht : t.data.toList = moreT s.data.toList m r) (hz : t.size = s.size + (moreL r).length) :
    ∀ (i f f' a : Nat), a ≤ m → s.size + 1 ≤ f + a → t.size + 1 ≤ f' + a → (∀ x ∈ itemsG s f a, x.2.2.2.2 = 0) → (h : i < (itemsG s f a).length) → ((itemsG s f a)[i]'h).2.2.2.1 = (m : Int) →
      itemsG t f' a = (itemsG s f a).take i ++ ((itemsG s f a).drop i).map (shiftI (moreL r).length)
  | i, 0, f', a, h0, h1, h2, q, h, e => by omega
  | i, f + 1, 0, a, h0, h1, h2, q, h, e => by omega
  | 0, f + 1, f' + 1, a, h0, h1, h2, q, h, e => by
    have hm' : m ≤ s.data.toList.length := by rw [len_of]; exact hm
    obtain ⟨e0, e1⟩ := items_step s f a q
    have bm : begL s.data.toList a = m := by
      have this := first_of _ _ _ e1 h
      rw [this] at e
      simp only at e
      omega
    obtain ⟨b1, b2⟩ := more_here s.data.toList m r hm' hr a h0 bm
    have tl := tok_len s.data.toList a (by rw [len_of]; omega)
    rw [len_of] at tl
    rw [List.take_zero, List.drop_zero, List.nil_append, e1, itemsG, ht, b1, b2, if_pos e0, bm, List.map_cons]
    congr 1
    · unfold shiftI
      have := ext_same t s (m + (moreL r).length) m (tokL s.data.toList a).2.2.1 (by rw [ht, moreT_far s.data.toList m r hm' _ (Nat.le_refl _)])
      rw [this]
      simp
    · split
      · rfl
      · rename_i d
        have p := tok_pos s.data.toList a e0 d
        have := items_shift s t m r hm ht hz f f' (m + (tokL s.data.toList a).2.2.1) (by omega) (by omega) (by omega) (by omega)
        rw [← this]
        congr 1
        omega
  | i + 1, f + 1, f' + 1, a, h0, h1, h2, q, h, e => by
    have hm' : m ≤ s.data.toList.length := by rw [len_of]; exact hm
    obtain ⟨e0, e1⟩ := items_step s f a q
    by_cases d : (tokL s.data.toList a).2.1 = 0
    · exfalso
      have l := congrArg List.length e1
      rw [if_pos d] at l
      simp at l
      omega
    · rw [if_neg d] at e1
      have l := congrArg List.length e1
      simp only [List.length_cons] at l
      have h' : i < (itemsG s f (begL s.data.toList a + (tokL s.data.toList a).2.2.1)).length := by omega
      have at' : ((itemsG s f (begL s.data.toList a + (tokL s.data.toList a).2.2.1))[i]'h').2.2.2.1 = (m : Int) := by
        have := congrArg (fun z => z[i + 1]?) e1
        simp only [List.getElem?_eq_getElem h, List.getElem?_cons_succ, List.getElem?_eq_getElem h', Option.some.injEq] at this
        rw [← this]
        exact e
      have ge := items_ge s f _ _ (List.getElem_mem h')
      rw [at'] at ge
      have le : begL s.data.toList a + (tokL s.data.toList a).2.2.1 ≤ m := by omega
      obtain ⟨b1, b2⟩ := more_ahead s.data.toList m r hm' a h0 e0 d le
      have p := tok_pos s.data.toList a e0 d
      have bl := beg_le s.data.toList a (by rw [len_of]; omega)
      have q' : ∀ x ∈ itemsG s f (begL s.data.toList a + (tokL s.data.toList a).2.2.1), x.2.2.2.2 = 0 := fun x hx => q x (by rw [e1]; exact List.mem_cons_of_mem _ hx)
      have ih := items_more s t m r hm hr ht hz i f f' (begL s.data.toList a + (tokL s.data.toList a).2.2.1) le (by omega) (by omega) q' h' at'
      rw [e1, itemsG, ht, b1, b2, if_pos e0, if_neg d, ih, List.take_succ_cons, List.drop_succ_cons, List.cons_append]
      congr 1
      have : t.extract (begL s.data.toList a) (begL s.data.toList a + (tokL s.data.toList a).2.2.1) = s.extract (begL s.data.toList a) (begL s.data.toList a + (tokL s.data.toList a).2.2.1) := by
        apply ext_same
        obtain ⟨n1, n2⟩ := moreT_near s.data.toList m r hm' (begL s.data.toList a) (by omega)
        rw [ht, n1, n2, List.take_append_of_le_length (by rw [List.length_drop, List.length_take]; omega), List.take_append_of_le_length (by rw [List.length_drop, List.length_take]; omega)]
      rw [this]
theorem shift_at (d : Nat) (A : List Item) (i k : Nat) (h : k < A.length) : ∃ y, (A.take i ++ (A.drop i).map (shiftI d))[k]? = some y ∧ y.1 = (A[k]'h).1 ∧ y.2.1 = (A[k]'h).2.1 ∧ (k < i → y.2.2.2.1 = (A[k]'h).2.2.2.1) := by
  by_cases c : k < i
  · refine ⟨A[k]'h, ?_, rfl, rfl, fun _ => rfl⟩
    rw [List.getElem?_append_left (by rw [List.length_take]; omega), List.getElem?_take, if_pos c, List.getElem?_eq_getElem h]
  · refine ⟨shiftI d (A[k]'h), ?_, rfl, rfl, fun z => absurd z c⟩
    have il : (A.take i).length = i := by rw [List.length_take]; omega
    rw [List.getElem?_append_right (by omega), il, List.getElem?_map, List.getElem?_drop, show i + (k - i) = k by omega, List.getElem?_eq_getElem h]
    rfl
end Go.Proofs.YtdofnjlnleofjaaDoor
