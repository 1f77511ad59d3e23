/-
  fed: Plus by the document; nil unions.
-/
import Derived.OrdersHeld
import Derived.Deep.RegionHeld
import Derived.Test.YtnfkmpickmonoaaQ45
import Derived.Test.YtnfkmpickmonoaaQ35
import Derived.Test.YtnfkmpickmonoaaQ36
import Derived.Deep.RegionHeld3
namespace Go.Proofs.Ytnfkmpickmonoaa
open Go.RowKit Go.Shelf
set_option linter.unusedVariables false
set_option maxRecDepth 100000
attribute [local go_sem] Oper.semAt_some
/-- A row of the document's zones that is a call's own, as a row that New takes. -/
theorem rprow_own {W : World} {base n m q : Nat} {v : Value} {ps : List RPZ7} (h : W.ownsRow base 34 1 v q (ps.map rptr7)) (hq : ps.length = q) (hq0 : 0 < q) (hz : ∀ z, some z ∈ ps → RZone W 0 z.1 n z.2 ∧ z.2.length = m) : ∃ g cap, v = .slice (some ⟨g, 0, none⟩) q cap ∧ RPRow W (some ⟨g, 0, none⟩) n m ps := by
  rcases own_at h with ⟨-, e2⟩ | ⟨g, cap, e1, -, -, hc⟩
  · omega
  · refine ⟨g, cap, e1, fun k hk => ⟨g, rfl, ?_⟩, hz⟩
    exact hc k _ (by omega) (by rw [List.getElem?_map, List.getElem?_eq_getElem hk]; rfl)
end Go.Proofs.Ytnfkmpickmonoaa
