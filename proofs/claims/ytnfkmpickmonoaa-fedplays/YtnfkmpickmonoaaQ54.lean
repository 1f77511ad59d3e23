/-
  fed: what the law is handed, opened: matrices, and a mark.
-/
import Derived.Test.YtnfkmpickmonoaaQ38
import Derived.Lib.SmallJoins
namespace Go.Proofs.Ytnfkmpickmonoaa
open Go.ChangeShapes Go.WideShapes Go.ChangeAt Go.RowKit Go.Deep
set_option linter.unusedVariables false
set_option maxRecDepth 100000
theorem open_bssV {H : Type} {enc : TypeId × Value → H} {w : World} {base : Nat} {spare : Nat → Bool} {held : Bool} {fuel : Nat} {v : Value} {x : DataW H × List MemPlace}
    (h : DataW.trod enc Try.prog w base spare held fuel 22 [v] = some x) : ∃ ad len cap V L, v = .slice ad len cap ∧ Bss w ad len V L := by
  have hv : ∃ ad len cap, v = .slice ad len cap := by
    rcases open_slice1 Try.underlying22 (by kernel_rfl) h with ⟨h0, _⟩ | ⟨a, len', cap', m, n, V, D, Pl, h0, _⟩
    · simp at h0
      exact ⟨_, _, _, h0⟩
    · simp at h0
      exact ⟨_, _, _, h0⟩
  obtain ⟨ad, len, cap, rfl⟩ := hv
  obtain ⟨V, L, h1⟩ := open_bss (ad := ad) (len := len) (cap := cap) h
  exact ⟨ad, len, cap, V, L, rfl, h1⟩
theorem open_rows {H : Type} {enc : TypeId × Value → H} {w : World} {r : Reach} {b0 base : Nat} {spare : Nat → Bool} {held : Bool} {v : Value} {d : DataW H} {p : List MemPlace}
    (hv : Value.okWide Try.prog w r b0 24 v) (h : DataW.Trod enc Try.prog w base spare held 24 v d p) :
    ∃ ad len cap nl V L, v = .agg #[.slice ad len cap, .bool nl] ∧ Bss w ad len V L := by
  obtain ⟨c0, c1, y0, y1, m, rfl, _, _, g0, g1⟩ := Joins.open_agg2 Try.underlying24 (by kernel_rfl) (by kernel_rfl) hv h
  obtain ⟨ad, len, cap, V, L, rfl, h1⟩ := open_bssV g0
  obtain ⟨b, e1, _⟩ := DataW.trod_bool Try.underlying4 g1
  simp only [List.cons.injEq, and_true] at e1
  subst e1
  exact ⟨ad, len, cap, b, V, L, rfl, h1⟩
end Go.Proofs.Ytnfkmpickmonoaa
