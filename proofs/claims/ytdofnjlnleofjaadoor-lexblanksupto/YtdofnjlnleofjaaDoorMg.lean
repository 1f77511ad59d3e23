/-
  lex.All.
-/
import Derived.Test.YtdofnjlnleofjaaDoorMf
namespace Go.Proofs.YtdofnjlnleofjaaDoor
open Go.RowKit Go.Shelf
set_option linter.unusedVariables false
attribute [local go_sem] Oper.semAt_some
theorem infoTok : (Tryd.prog.info? 30).map (fun i => (i.zero, i.size, i.bytes)) = some (some (.agg #[.int .u8 0, .string ⟨#[]⟩, .int .i64 0, .int .i64 0]), 4, 40) := by kernel_rfl
abbrev itemC (x : Item) : List Value := [.int .u8 x.1, .string x.2.1, .int .i64 x.2.2.1, .int .i64 x.2.2.2.1]
def cellsL (l : List Item) : List Value := l.flatMap itemC
theorem cells_snoc (l : List Item) (x : Item) : cellsL (l ++ [x]) = cellsL l ++ itemC x := by simp [cellsL]
theorem cells_len : ∀ l : List Item, (cellsL l).length = 4 * l.length
  | [] => rfl
  | x :: l => by
    have := cells_len l
    simp [cellsL] at *
    omega
theorem ownAt_box {W : World} {B : Nat} {t : TypeId} {v : Value} (h : Boxed W B t v) : ownAt B W = v.ownBlock := by unfold ownAt; rw [h.cell]
theorem KeepT.alloc {n₀ B : Nat} (W : World) (o : Obj) (hn : n₀ ≤ W.heap.size) (hB : B < W.heap.size) : KeepT n₀ B W (W.alloc o) :=
  have hb : Below W.heap.size W (W.alloc o) := Below.alloc (Below.refl _ _) (Nat.le_refl _) _
  have e : ownAt B (W.alloc o) = ownAt B W := ownAt_of (hb.cell (p := ⟨B, 0, none⟩) hB)
  ⟨hb.mono hn, fun q g hg => by rw [e] at hg; have := q g hg; simp; omega, fun b p hb' hp hne _ => (hb.block b (Array.getElem?_eq_some_iff.1 hb').1).trans hb', .inl e⟩
theorem KeepT.appended {n₀ B : Nat} {W w1 : World} {t e : TypeId} {size m : Nat} {v v' : Value} {ys : List Value} {tmp : Obj} (hv : Boxed W B t v) (hv2 : Boxed (w1.setCell ⟨B, 0, none⟩ v') B t v')
    (hown' : w1.ownsRow n₀ e size v' m ys) (hgrow : (W.alloc tmp).grownBy w1 v.ownBlock) (hat : v'.ownBlock = v.ownBlock ∨ v'.ownBlock = some (W.alloc tmp).heap.size) (hb2 : Below n₀ W (w1.setCell ⟨B, 0, none⟩ v')) :
    KeepT n₀ B W (w1.setCell ⟨B, 0, none⟩ v') := by
  have e1 := ownAt_box hv
  have e2 := ownAt_box hv2
  have s1 := hgrow.size
  rw [World.size_alloc] at s1
  refine ⟨hb2, fun q g hg => ?_, fun b o hb ho hne hx => ?_, ?_⟩
  · rw [e2] at hg
    have := (hown'.lt g hg).2
    have := (KeepsWalks.setCell w1 ⟨B, 0, none⟩ v').size
    omega
  · rw [e1] at hx
    have hl := (Array.getElem?_eq_some_iff.1 hb).1
    rw [(grownBy_setCell' w1 B v').block b (by omega) (fun q => hne (by injection q)), hgrow.block b (by simp; omega) hx, Below.heap_alloc W tmp b hl]
    exact hb
  · rw [e1, e2]
    rcases hat with q | q
    · exact .inl q
    · exact .inr ⟨_, q, by simp⟩
theorem objs_own {β : Type} (B : Nat) (xs : Array Value) (t : TypeId) : Own (fun (_ : β) W => W.heap[B]? = some (.cells xs t)) := fun s X Y row hs hg hrow =>
  (hg.block B (Array.getElem?_eq_some_iff.1 hs).1 (fun e' => by obtain ⟨o, ho, hc⟩ := hrow B e'.symm; rw [hs] at ho; cases ho; cases hc)).trans hs
theorem cell_four (w : World) (a b c d : Value) (t : TypeId) : ∀ j u, [a, b, c, d][j]? = some u → (w.alloc (.cells #[a, b, c, d] t)).cell? ((⟨w.heap.size, 0, none⟩ : Addr).add j) = some u := by
  intro j u h
  have hadd : (⟨w.heap.size, 0, none⟩ : Addr).add j = ⟨w.heap.size, j, none⟩ := by unfold Addr.add; split <;> simp_all
  rw [hadd]
  match j, h with
  | 0, h => simpa [go_sem] using h
  | 1, h => simpa [go_sem] using h
  | 2, h => simpa [go_sem] using h
  | 3, h => simpa [go_sem] using h
  | j + 4, h => simp at h
/-- What lies in memory between two rounds. -/
def AllI (w : World) (pre : List Item) (W : World) : Prop :=
  ((∃ v, Boxed W (w.heap.size + 1 + 1 + 1) 22 v ∧ W.ownsRow w.heap.size 30 4 v pre.length (cellsL pre) ∧ (∀ g, v.ownBlock = some g → w.heap.size + 1 + 1 + 1 + 1 + 1 ≤ g)) ∧
    (∀ x ∈ pre, x.2.2.2.2 = 0) ∧ Boxed W w.heap.size 22 (.slice none 0 0) ∧ Boxed W (w.heap.size + 1) 23 (.int .i64 0) ∧ Boxed W (w.heap.size + 1 + 1) 3 (.int .i64 0) ∧ w.heap.size + 1 + 1 + 1 + 1 + 1 ≤ W.heap.size) ∧ Below w.heap.size w W
def AllX (w : World) (c : Code) (pre : List Item) (W : World) : Prop :=
  (c = .ret ∧ ∃ x, pre.getLast? = some x ∧ ¬ x.2.2.2.2 = 0 ∧ Boxed W w.heap.size 22 (.slice none 0 0) ∧ Boxed W (w.heap.size + 1) 23 (.int .i64 x.2.2.2.2) ∧ Boxed W (w.heap.size + 1 + 1) 3 (.int .i64 x.2.2.2.1)) ∧ Below w.heap.size w W
theorem own_pure {β : Type} (p : β → Prop) : Own (fun s (_ : World) => p s) := fun _ _ _ _ hs _ _ => hs
theorem Own.and {β : Type} {I I' : β → World → Prop} (h : Own I) (h' : Own I') : Own (fun s W => I s W ∧ I' s W) := fun s W W' row hs hg hr => ⟨h s W W' row hs.1 hg hr, h' s W W' row hs.2 hg hr⟩
theorem own_size {β : Type} (k : Nat) : Own (fun (_ : β) W => k ≤ W.heap.size) := fun _ W W' row hs hg _ => Nat.le_trans hs hg.size
theorem allI_own (w : World) (B : Nat) (hB : w.heap.size ≤ B) : OwnFrom B (AllI w) :=
  OwnFrom.and (Own.from (Own.and (holdsRow_own w.heap.size (w.heap.size + 1 + 1 + 1) 22 30 4 (fun pre : List Item => pre.length) (fun pre => cellsL pre) (fun _ v => ∀ g, v.ownBlock = some g → w.heap.size + 1 + 1 + 1 + 1 + 1 ≤ g))
    (Own.and (own_pure fun pre : List Item => ∀ x ∈ pre, x.2.2.2.2 = 0) (Own.and (boxed_own _ _ (fun _ => _)) (Own.and (boxed_own _ _ (fun _ => _)) (Own.and (boxed_own _ _ (fun _ => _)) (own_size _)))))) B) (ownFrom_below (Nat.le_refl _) hB)
theorem allX_own (w : World) (c : Code) (B : Nat) (hB : w.heap.size ≤ B) : OwnFrom B (AllX w c) :=
  OwnFrom.and (Own.from (fun pre X Y row hs hg hr => by
    obtain ⟨hc, x, h1, h2, h3, h4, h5⟩ := hs
    exact ⟨hc, x, h1, h2, boxed_own _ _ (fun (_ : Unit) => _) () X Y row h3 hg hr, boxed_own _ _ (fun (_ : Unit) => _) () X Y row h4 hg hr, boxed_own _ _ (fun (_ : Unit) => _) () X Y row h5 hg hr⟩) B) (ownFrom_below (Nat.le_refl _) hB)
/-- What lex.All answers. -/
def AllR (s : ByteArray) (w : World) (e : Ending) (W : World) : Prop :=
  ((∃ x, (itemsL s).getLast? = some x ∧ ¬ x.2.2.2.2 = 0 ∧ e = .returned (.tuple #[.slice none 0 0, .int .i64 x.2.2.2.2, .int .i64 x.2.2.2.1])) ∨
   (∃ v, (∀ x ∈ itemsL s, x.2.2.2.2 = 0) ∧ e = .returned (.tuple #[v, .int .i64 0, .int .i64 0]) ∧ W.ownsRow w.heap.size 30 4 v (itemsL s).length (cellsL (itemsL s)))) ∧ Below w.heap.size w W
theorem items_prefix_err (s : ByteArray) : ∀ (f a : Nat) (pre : List Item) (x : Item), pre <+: itemsG s f a → pre.getLast? = some x → ¬ x.2.2.2.2 = 0 → (itemsG s f a).getLast? = some x
  | 0, a, pre, x, h, h1, _ => by
    rw [itemsG] at h
    have : pre = [] := List.prefix_nil.1 h
    rw [this] at h1
    cases h1
  | f + 1, a, pre, x, h, h1, h2 => by
    rw [itemsG] at h ⊢
    split
    · rename_i c
      rw [if_pos c] at h
      cases pre with
      | nil => cases h1
      | cons y pre =>
        obtain ⟨hy, h'⟩ := List.cons_prefix_cons.1 h
        subst hy
        split
        · rename_i d
          rw [if_pos d] at h'
          have : pre = [] := List.prefix_nil.1 h'
          rw [this] at h1
          injection h1 with h1
          rw [← h1] at h2
          exact absurd rfl h2
        · rename_i d
          rw [if_neg d] at h'
          cases pre with
          | nil =>
            injection h1 with h1
            rw [← h1] at h2
            exact absurd rfl h2
          | cons z pre =>
            have := items_prefix_err s f _ (z :: pre) x h' (by rw [List.getLast?_cons_cons] at h1; exact h1) h2
            rw [List.getLast?_cons]
            rw [this]
            rfl
    · rename_i c
      rw [if_neg c] at h
      cases pre with
      | nil => cases h1
      | cons y pre =>
        obtain ⟨hy, h'⟩ := List.cons_prefix_cons.1 h
        subst hy
        have : pre = [] := List.prefix_nil.1 h'
        rw [this] at h1
        exact h1
end Go.Proofs.YtdofnjlnleofjaaDoor
