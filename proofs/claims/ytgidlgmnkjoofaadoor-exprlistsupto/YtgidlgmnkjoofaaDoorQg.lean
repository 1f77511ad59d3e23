/-
  expr.Same, and the document's Same.
-/
import Derived.Test.YtgidlgmnkjoofaaDoorPm
namespace Go.Proofs.YtgidlgmnkjoofaaDoor
open Go.RowKit
set_option linter.unusedVariables false
theorem nodes_at {W : World} {ad : Option Addr} {l : List Node} (h : RowV W ad (l.flatMap NodeC)) {k : Nat} (hk : k < l.length) : ∃ b off, ad = some ⟨b, off, none⟩ ∧ W.cell? ⟨b, off + k * 2, none⟩ = some (.int .u8 ((l[k]'hk).1 : Int)) ∧ W.cell? ⟨b, off + k * 2 + 1, none⟩ = some (.int .i64 (l[k]'hk).2) := by
  obtain ⟨b, off, e, cc⟩ := rowV_at (s := 2) (fun _ => rfl) h (by decide) hk
  have x0 := cc 0 (by decide)
  have x1 := cc 1 (by decide)
  simp only [NodeC, List.getElem?_cons_zero, List.getElem?_cons_succ, Nat.add_zero] at x0 x1
  exact ⟨b, off, e, x0, by rw [Nat.add_assoc]; exact x1⟩
theorem lists_eq {a b : List Node} (h : a.length = b.length) (e : ∀ i (ha : i < a.length) (hb : i < b.length), a[i]'ha = b[i]'hb) : a = b := List.ext_getElem h e
end Go.Proofs.YtgidlgmnkjoofaaDoor
