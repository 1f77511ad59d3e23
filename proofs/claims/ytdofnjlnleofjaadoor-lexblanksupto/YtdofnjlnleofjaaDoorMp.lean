/-
  The statement on lex.All: its walk.
-/
import Derived.Test.YtdofnjlnleofjaaDoorMk
import Derived.Test.YtdofnjlnleofjaaDoorMo
import Derived.Deep.RegionWith
namespace Go.Proofs.YtdofnjlnleofjaaDoor
open Go.RowKit
set_option linter.unusedVariables false
theorem item_kind (s : ByteArray) : ∀ (f a : Nat), ∀ x ∈ itemsG s f a, 0 ≤ x.1 ∧ x.1 ≤ 255
  | 0, _, x, h => by rw [itemsG] at h; cases h
  | f + 1, a, x, h => by
    rw [itemsG] at h
    split at h
    · rcases List.mem_cons.1 h with rfl | h
      · have := firstM_kind (s.data.toList.drop (begL s.data.toList a))
        unfold tokL
        exact ⟨this.1, by have := this.2; simp only; omega⟩
      · split at h
        · cases h
        · exact item_kind s f _ x h
    · rw [List.mem_singleton.1 h]
      exact ⟨(by decide : (0 : Int) ≤ 0), (by decide : (0 : Int) ≤ 255)⟩
theorem items_err (s : ByteArray) : ∀ (f a : Nat) (x : Item), x ∈ itemsG s f a → ¬ x.2.2.2.2 = 0 → (itemsG s f a).getLast? = some x
  | 0, _, x, h, _ => by rw [itemsG] at h; cases h
  | f + 1, a, x, h, z => by
    rw [itemsG] at h ⊢
    split at h
    · rename_i c
      rw [if_pos c]
      rcases List.mem_cons.1 h with rfl | h
      · exact absurd rfl z
      · split at h
        · cases h
        · rename_i d
          rw [if_neg d, List.getLast?_cons, items_err s f _ x h z]
          rfl
    · rename_i c
      rw [if_neg c, List.mem_singleton.1 h]
      rfl
theorem cells_at : ∀ (l : List Item) (k : Nat) (h : k < l.length), (cellsL l)[4 * k]? = some (.int .u8 (l[k]'h).1) ∧ (cellsL l)[4 * k + 1]? = some (.string (l[k]'h).2.1) ∧ (cellsL l)[4 * k + 2]? = some (.int .i64 (l[k]'h).2.2.1) ∧ (cellsL l)[4 * k + 3]? = some (.int .i64 (l[k]'h).2.2.2.1)
  | [], k, h => by simp at h
  | x :: l, 0, h => ⟨rfl, rfl, rfl, rfl⟩
  | x :: l, k + 1, h => by
    have := cells_at l k (by simpa using h)
    have e : cellsL (x :: l) = [.int .u8 x.1, .string x.2.1, .int .i64 x.2.2.1, .int .i64 x.2.2.2.1] ++ cellsL l := by simp [cellsL]
    rw [e]
    rw [List.getElem?_append_right (by simp; omega), List.getElem?_append_right (by simp; omega), List.getElem?_append_right (by simp; omega), List.getElem?_append_right (by simp; omega)]
    simp only [List.length_cons, List.length_nil, List.getElem_cons_succ]
    have e0 : 4 * (k + 1) - (0 + 1 + 1 + 1 + 1) = 4 * k := by omega
    have e1 : 4 * (k + 1) + 1 - (0 + 1 + 1 + 1 + 1) = 4 * k + 1 := by omega
    have e2 : 4 * (k + 1) + 2 - (0 + 1 + 1 + 1 + 1) = 4 * k + 2 := by omega
    have e3 : 4 * (k + 1) + 3 - (0 + 1 + 1 + 1 + 1) = 4 * k + 3 := by omega
    rw [e0, e1, e2, e3]
    exact this
theorem cellsX_at : ∀ (l : List Item) (k : Nat) (h : k < l.length), (cellsX l)[4 * k]? = some (.int .i64 (l[k]'h).1) ∧ (cellsX l)[4 * k + 1]? = some (.string (l[k]'h).2.1) ∧ (cellsX l)[4 * k + 2]? = some (.int .i64 (l[k]'h).2.2.1) ∧ (cellsX l)[4 * k + 3]? = some (.int .i64 (l[k]'h).2.2.2.1)
  | [], k, h => by simp at h
  | x :: l, 0, h => ⟨rfl, rfl, rfl, rfl⟩
  | x :: l, k + 1, h => by
    have := cellsX_at l k (by simpa using h)
    have e : cellsX (x :: l) = [.int .i64 x.1, .string x.2.1, .int .i64 x.2.2.1, .int .i64 x.2.2.2.1] ++ cellsX l := by simp [cellsX]
    rw [e]
    rw [List.getElem?_append_right (by simp; omega), List.getElem?_append_right (by simp; omega), List.getElem?_append_right (by simp; omega), List.getElem?_append_right (by simp; omega)]
    simp only [List.length_cons, List.length_nil, List.getElem_cons_succ]
    have e0 : 4 * (k + 1) - (0 + 1 + 1 + 1 + 1) = 4 * k := by omega
    have e1 : 4 * (k + 1) + 1 - (0 + 1 + 1 + 1 + 1) = 4 * k + 1 := by omega
    have e2 : 4 * (k + 1) + 2 - (0 + 1 + 1 + 1 + 1) = 4 * k + 2 := by omega
    have e3 : 4 * (k + 1) + 3 - (0 + 1 + 1 + 1 + 1) = 4 * k + 3 := by omega
    rw [e0, e1, e2, e3]
    exact this
/-- Tokens lie in a row. -/
def RowL (W : World) (g : Nat) (l : List Item) : Prop := g < W.heap.size ∧ ∀ k (h : k < l.length), W.cell? ⟨g, k * 4, none⟩ = some (.int .u8 (l[k]'h).1) ∧ W.cell? ⟨g, k * 4 + 1, none⟩ = some (.string (l[k]'h).2.1) ∧ W.cell? ⟨g, k * 4 + 2, none⟩ = some (.int .i64 (l[k]'h).2.2.1) ∧ W.cell? ⟨g, k * 4 + 3, none⟩ = some (.int .i64 (l[k]'h).2.2.2.1)
def RowX (W : World) (g : Nat) (l : List Item) : Prop := g < W.heap.size ∧ ∀ k (h : k < l.length), W.cell? ⟨g, k * 4, none⟩ = some (.int .i64 (l[k]'h).1) ∧ W.cell? ⟨g, k * 4 + 1, none⟩ = some (.string (l[k]'h).2.1) ∧ W.cell? ⟨g, k * 4 + 2, none⟩ = some (.int .i64 (l[k]'h).2.2.1) ∧ W.cell? ⟨g, k * 4 + 3, none⟩ = some (.int .i64 (l[k]'h).2.2.2.1)
theorem RowL.later {W w : World} {g : Nat} {l : List Item} (h : RowL W g l) (hb : Below W.heap.size W w) : RowL w g l := ⟨Nat.lt_of_lt_of_le h.1 hb.size, fun k hk => ⟨(hb.cell (p := ⟨g, _, none⟩) h.1).trans (h.2 k hk).1, (hb.cell (p := ⟨g, _, none⟩) h.1).trans (h.2 k hk).2.1, (hb.cell (p := ⟨g, _, none⟩) h.1).trans (h.2 k hk).2.2.1, (hb.cell (p := ⟨g, _, none⟩) h.1).trans (h.2 k hk).2.2.2⟩⟩
theorem RowX.later {W w : World} {g : Nat} {l : List Item} (h : RowX W g l) (hb : Below W.heap.size W w) : RowX w g l := ⟨Nat.lt_of_lt_of_le h.1 hb.size, fun k hk => ⟨(hb.cell (p := ⟨g, _, none⟩) h.1).trans (h.2 k hk).1, (hb.cell (p := ⟨g, _, none⟩) h.1).trans (h.2 k hk).2.1, (hb.cell (p := ⟨g, _, none⟩) h.1).trans (h.2 k hk).2.2.1, (hb.cell (p := ⟨g, _, none⟩) h.1).trans (h.2 k hk).2.2.2⟩⟩
theorem rowL_of {W : World} {base : Nat} {e : TypeId} {g n cap : Nat} {l : List Item} (h : W.ownsRow base e 4 (.slice (some ⟨g, 0, none⟩) n cap) l.length (cellsL l)) : RowL W g l :=
  ⟨(h.lt g rfl).2, fun k hk => by
    obtain ⟨a, b, c, d⟩ := cells_at l k hk
    rw [Nat.mul_comm k 4]
    exact ⟨row_cell h _ _ a, row_cell h _ _ b, row_cell h _ _ c, row_cell h _ _ d⟩⟩
theorem rowX_of {W : World} {base : Nat} {e : TypeId} {g n cap : Nat} {l : List Item} (h : W.ownsRow base e 4 (.slice (some ⟨g, 0, none⟩) n cap) l.length (cellsX l)) : RowX W g l :=
  ⟨(h.lt g rfl).2, fun k hk => by
    obtain ⟨a, b, c, d⟩ := cellsX_at l k hk
    rw [Nat.mul_comm k 4]
    exact ⟨row_cell h _ _ a, row_cell h _ _ b, row_cell h _ _ c, row_cell h _ _ d⟩⟩
end Go.Proofs.YtdofnjlnleofjaaDoor
