/-
  The statement on lex.All: its walk.
-/
import Derived.Test.YtabjadbpllhgkaaDoorMk
import Derived.Test.YtabjadbpllhgkaaDoorMo
import Derived.Deep.RegionWith
namespace Go.Proofs.YtabjadbpllhgkaaDoor
open Go.RowKit
set_option linter.unusedVariables false
theorem item_kind (s : ByteArray) : ∀ (f a : Nat), ∀ x ∈ itemsG s f a, 0 ≤ x.1 ∧ x.1 ≤ 255
  | 0, _, x, h => by rw [itemsG] at h; cases h
  | f + 1, a, x, h => by
    rw [itemsG] at h
    split at h
    · rcases List.mem_cons.1 h with rfl | h
      · have := firstM_kind (s.data.toList.drop (begL s.data.toList a))
        unfold tokL
        exact ⟨this.1, by have := this.2; simp only; omega⟩
      · split at h
        · cases h
        · exact item_kind s f _ x h
    · rw [List.mem_singleton.1 h]
      exact ⟨(by decide : (0 : Int) ≤ 0), (by decide : (0 : Int) ≤ 255)⟩
theorem items_err (s : ByteArray) : ∀ (f a : Nat) (x : Item), x ∈ itemsG s f a → ¬ x.2.2.2.2 = 0 → (itemsG s f a).getLast? = some x
  | 0, _, x, h, _ => by rw [itemsG] at h; cases h
  | f + 1, a, x, h, z => by
    rw [itemsG] at h ⊢
    split at h
    · rename_i c
      rw [if_pos c]
      rcases List.mem_cons.1 h with rfl | h
      · exact absurd rfl z
      · split at h
        · cases h
        · rename_i d
          rw [if_neg d, List.getLast?_cons, items_err s f _ x h z]
          rfl
    · rename_i c
      rw [if_neg c, List.mem_singleton.1 h]
      rfl
theorem cells_at : ∀ (l : List Item) (k : Nat) (h : k < l.length), (cellsL l)[4 * k]? = some (.int .u8 (l[k]'h).1) ∧ (cellsL l)[4 * k + 1]? = some (.string (l[k]'h).2.1) ∧ (cellsL l)[4 * k + 2]? = some (.int .i64 (l[k]'h).2.2.1) ∧ (cellsL l)[4 * k + 3]? = some (.int .i64 (l[k]'h).2.2.2.1)
  | [], k, h => by simp at h
  | x :: l, 0, h => ⟨rfl, rfl, rfl, rfl⟩
  | x :: l, k + 1, h => by
    have := cells_at l k (by simpa using h)
    have e : cellsL (x :: l) = [.int .u8 x.1, .string x.2.1, .int .i64 x.2.2.1, .int .i64 x.2.2.2.1] ++ cellsL l := by simp [cellsL]
    rw [e]
    rw [List.getElem?_append_right (by simp; omega), List.getElem?_append_right (by simp; omega), List.getElem?_append_right (by simp; omega), List.getElem?_append_right (by simp; omega)]
    simp only [List.length_cons, List.length_nil, List.getElem_cons_succ]
    have e0 : 4 * (k + 1) - (0 + 1 + 1 + 1 + 1) = 4 * k := by omega
    have e1 : 4 * (k + 1) + 1 - (0 + 1 + 1 + 1 + 1) = 4 * k + 1 := by omega
    have e2 : 4 * (k + 1) + 2 - (0 + 1 + 1 + 1 + 1) = 4 * k + 2 := by omega
    have e3 : 4 * (k + 1) + 3 - (0 + 1 + 1 + 1 + 1) = 4 * k + 3 := by omega
    rw [e0, e1, e2, e3]
    exact this
theorem cellsX_at : ∀ (l : List Item) (k : Nat) (h : k < l.length), (cellsX l)[4 * k]? = some (.int .i64 (l[k]'h).1) ∧ (cellsX l)[4 * k + 1]? = some (.string (l[k]'h).2.1) ∧ (cellsX l)[4 * k + 2]? = some (.int .i64 (l[k]'h).2.2.1) ∧ (cellsX l)[4 * k + 3]? = some (.int .i64 (l[k]'h).2.2.2.1)
  | [], k, h => by simp at h
  | x :: l, 0, h => ⟨rfl, rfl, rfl, rfl⟩
  | x :: l, k + 1, h => by
    have := cellsX_at l k (by simpa using h)
    have e : cellsX (x :: l) = [.int .i64 x.1, .string x.2.1, .int .i64 x.2.2.1, .int .i64 x.2.2.2.1] ++ cellsX l := by simp [cellsX]
    rw [e]
    rw [List.getElem?_append_right (by simp; omega), List.getElem?_append_right (by simp; omega), List.getElem?_append_right (by simp; omega), List.getElem?_append_right (by simp; omega)]
    simp only [List.length_cons, List.length_nil, List.getElem_cons_succ]
    have e0 : 4 * (k + 1) - (0 + 1 + 1 + 1 + 1) = 4 * k := by omega
    have e1 : 4 * (k + 1) + 1 - (0 + 1 + 1 + 1 + 1) = 4 * k + 1 := by omega
    have e2 : 4 * (k + 1) + 2 - (0 + 1 + 1 + 1 + 1) = 4 * k + 2 := by omega
    have e3 : 4 * (k + 1) + 3 - (0 + 1 + 1 + 1 + 1) = 4 * k + 3 := by omega
    rw [e0, e1, e2, e3]
    exact this
/-- Tokens lie in a row. -/
def RowL (W : World) (g : Nat) (l : List Item) : Prop := g < W.heap.size ∧ ∀ k (h : k < l.length), W.cell? ⟨g, k * 4, none⟩ = some (.int .u8 (l[k]'h).1) ∧ W.cell? ⟨g, k * 4 + 1, none⟩ = some (.string (l[k]'h).2.1) ∧ W.cell? ⟨g, k * 4 + 2, none⟩ = some (.int .i64 (l[k]'h).2.2.1) ∧ W.cell? ⟨g, k * 4 + 3, none⟩ = some (.int .i64 (l[k]'h).2.2.2.1)
def RowX (W : World) (g : Nat) (l : List Item) : Prop := g < W.heap.size ∧ ∀ k (h : k < l.length), W.cell? ⟨g, k * 4, none⟩ = some (.int .i64 (l[k]'h).1) ∧ W.cell? ⟨g, k * 4 + 1, none⟩ = some (.string (l[k]'h).2.1) ∧ W.cell? ⟨g, k * 4 + 2, none⟩ = some (.int .i64 (l[k]'h).2.2.1) ∧ W.cell? ⟨g, k * 4 + 3, none⟩ = some (.int .i64 (l[k]'h).2.2.2.1)
theorem RowL.later {W w : World} {g : Nat} {l : List Item} (h : RowL W g l) (hb : Below W.heap.size W w) : RowL w g l := ⟨Nat.lt_of_lt_of_le h.1 hb.size, fun k hk => ⟨(hb.cell (p := ⟨g, _, none⟩) h.1).trans (h.2 k hk).1, (hb.cell (p := ⟨g, _, none⟩) h.1).trans (h.2 k hk).2.1, (hb.cell (p := ⟨g, _, none⟩) h.1).trans (h.2 k hk).2.2.1, (hb.cell (p := ⟨g, _, none⟩) h.1).trans (h.2 k hk).2.2.2⟩⟩
theorem RowX.later {W w : World} {g : Nat} {l : List Item} (h : RowX W g l) (hb : Below W.heap.size W w) : RowX w g l := ⟨Nat.lt_of_lt_of_le h.1 hb.size, fun k hk => ⟨(hb.cell (p := ⟨g, _, none⟩) h.1).trans (h.2 k hk).1, (hb.cell (p := ⟨g, _, none⟩) h.1).trans (h.2 k hk).2.1, (hb.cell (p := ⟨g, _, none⟩) h.1).trans (h.2 k hk).2.2.1, (hb.cell (p := ⟨g, _, none⟩) h.1).trans (h.2 k hk).2.2.2⟩⟩
theorem rowL_of {W : World} {base : Nat} {e : TypeId} {g n cap : Nat} {l : List Item} (h : W.ownsRow base e 4 (.slice (some ⟨g, 0, none⟩) n cap) l.length (cellsL l)) : RowL W g l :=
  ⟨(h.lt g rfl).2, fun k hk => by
    obtain ⟨a, b, c, d⟩ := cells_at l k hk
    rw [Nat.mul_comm k 4]
    exact ⟨row_cell h _ _ a, row_cell h _ _ b, row_cell h _ _ c, row_cell h _ _ d⟩⟩
theorem rowX_of {W : World} {base : Nat} {e : TypeId} {g n cap : Nat} {l : List Item} (h : W.ownsRow base e 4 (.slice (some ⟨g, 0, none⟩) n cap) l.length (cellsX l)) : RowX W g l :=
  ⟨(h.lt g rfl).2, fun k hk => by
    obtain ⟨a, b, c, d⟩ := cellsX_at l k hk
    rw [Nat.mul_comm k 4]
    exact ⟨row_cell h _ _ a, row_cell h _ _ b, row_cell h _ _ c, row_cell h _ _ d⟩⟩
/-- What both say of a text: an error at a place, or the same tokens. -/
theorem both_all (s : ByteArray) (hs : s.size ≤ 1000000000000) :
    (∃ e a : Int, ¬ e = 0 ∧ (∀ w, Calls Tryd.prog 13 #[.string s] w fun x W => x = .returned (.tuple #[.slice none 0 0, .int .i64 e, .int .i64 a]) ∧ Below w.heap.size w W) ∧ (∀ w, Calls Tryd.prog 14 #[.string s] w fun x W => x = .returned (.tuple #[.slice none 0 0, .int .i64 e, .int .i64 a]) ∧ Below w.heap.size w W)) ∨
    ((∀ w, Calls Tryd.prog 13 #[.string s] w fun x W => ∃ g cap, x = .returned (.tuple #[.slice (some ⟨g, 0, none⟩) (itemsL s).length cap, .int .i64 0, .int .i64 0]) ∧ RowL W g (itemsL s) ∧ Below w.heap.size w W) ∧ (∀ w, Calls Tryd.prog 14 #[.string s] w fun x W => ∃ g cap, x = .returned (.tuple #[.slice (some ⟨g, 0, none⟩) (itemsL s).length cap, .int .i64 0, .int .i64 0]) ∧ RowX W g (itemsL s) ∧ Below w.heap.size w W)) := by
  obtain ⟨k, hk⟩ := items_some s
  have A := fun w => all_any s hs w
  have X := fun w => xall_any s hs w
  by_cases q : ∀ x ∈ itemsL s, x.2.2.2.2 = 0
  · right
    refine ⟨fun w => (A w).mono ?_, fun w => (X w).mono ?_⟩
    · rintro e W ⟨⟨x, h1, h2, -⟩ | ⟨v, -, rfl, hr⟩, hb⟩
      · exact absurd (q x (List.mem_of_getLast? h1)) h2
      · have hr' := hr
        rw [hk] at hr'
        obtain ⟨g, cap, rfl⟩ := ownsRow_succ hr'
        exact ⟨g, cap, by rw [hk], rowL_of hr, hb⟩
    · rintro e W ⟨⟨x, h1, h2, -⟩ | ⟨v, -, rfl, hr⟩, hb⟩
      · exact absurd (q x (List.mem_of_getLast? h1)) h2
      · have hr' := hr
        rw [hk] at hr'
        obtain ⟨g, cap, rfl⟩ := ownsRow_succ hr'
        exact ⟨g, cap, by rw [hk], rowX_of hr, hb⟩
  · left
    obtain ⟨x, hm, z⟩ : ∃ x, x ∈ itemsL s ∧ ¬ x.2.2.2.2 = 0 := by
      apply Classical.byContradiction
      intro h
      exact q fun x hx => Classical.byContradiction fun g => h ⟨x, hx, g⟩
    have hx := items_err s _ _ x hm z
    have first : ∀ w e W, AllR s w e W → ¬ x.2.2.2.2 = 0 ∧ e = .returned (.tuple #[.slice none 0 0, .int .i64 x.2.2.2.2, .int .i64 x.2.2.2.1]) ∧ Below w.heap.size w W := by
      rintro w e W ⟨⟨y, h1, h2, h3⟩ | ⟨v, h, -, -⟩, hb⟩
      · rw [show (itemsL s).getLast? = some x from hx] at h1
        injection h1 with h1
        subst h1
        exact ⟨h2, h3, hb⟩
      · exact absurd h q
    refine ⟨x.2.2.2.2, x.2.2.2.1, z, fun w => (A w).mono fun e W h => (first w e W h).2, fun w => (X w).mono ?_⟩
    rintro e W ⟨⟨y, h1, h2, h3⟩ | ⟨v, h, -, -⟩, hb⟩
    · rw [show (itemsL s).getLast? = some x from hx] at h1
      injection h1 with h1
      subst h1
      exact ⟨h3, hb⟩
    · exact absurd h q
end Go.Proofs.YtabjadbpllhgkaaDoor
