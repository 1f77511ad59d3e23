/-
  fed: the document's Cell, Meets, Common for zones.
-/
import Derived.Test.YtnfkmpickmonoaaGreatQ30
import Derived.Test.YtnfkmpickmonoaaGreatQ21
import Derived.Test.YtnfkmpickmonoaaGreatQ32
import Derived.Test.YtnfkmpickmonoaaGreatQ24
import Derived.Deep.RegionHeld3
import Derived.Test.YtnfkmpickmonoaaGreatQ26
import Derived.OrdersHeld
import Derived.Deep.RegionHeld
import Derived.Test.YtnfkmpickmonoaaGreatQ27
import Derived.Test.YtnfkmpickmonoaaGreatQ29
import Derived.Test.YtnfkmpickmonoaaGreatQ28
namespace Go.Proofs.YtnfkmpickmonoaaGreat
open Go.RowKit Go.Shelf
set_option linter.unusedVariables false
set_option maxRecDepth 100000
theorem zc_zone7 {n m : Nat} {c : Row} (hn : n ≤ 8) (hm : m = (n + 1) * (n + 1)) (h : ZC n m c) : zoneR n (drf n m (listOf c m)) = some c := by
  rcases h with rfl | ⟨p, hp⟩
  · refine zone_hollow ?_
    rw [drf_at n m _ hm 0 0 (by omega) (by omega), listOf_get _ _ _ (show 0 * (n + 1) + 0 < m by rw [hm, Nat.zero_mul, Nat.zero_add]; exact Nat.mul_pos (Nat.succ_pos n) (Nat.succ_pos n))]
    decide
  · have e : ∀ i j, i ≤ n → j ≤ n → drf n m (listOf c m) i j = p i j := fun i j hi hj => by
      rw [drf_at n m _ hm i j hi hj, listOf_get _ _ _ (by rw [hm]; exact pos_lt hi hj), ← oR_at (c := c) hm hi hj]
      exact hp.pm hm hi hj
    have rR : RightL m (listOf c m) := fun k hk => by
      rw [listOf_get _ _ _ hk]
      have := zc_right hm (.inr ⟨p, hp⟩ : ZC n m c) k
      simpa only [rightB, decide_eq_true_eq] using this
    have O := drf_ok n m _ hm rR
    obtain ⟨p', h1, h2⟩ := close_above hn hp.cl O (fun i j hi hj => by rw [e i j hi hj]; exact Int.le_refl _)
    have R := close_rounds hn O.fin O.diag h1
    have eq : ∀ i j, i ≤ n → j ≤ n → p' i j = p i j := fun i j hi hj => Int.le_antisymm (by have := R.le i j hi hj; rw [e i j hi hj] at this; exact this) (h2 i j hi hj)
    have n1 : narAll n p' ((n + 1) * (n + 1)) = true := by rw [narAll_congr eq _ (Nat.le_refl _), ← hm]; exact hp.nar
    have n2 : cellsUpto n p' ((n + 1) * (n + 1)) = c := by rw [cellsUpto_congr eq _ (Nat.le_refl _), ← hm]; exact hp.cells.symm
    simp [zoneR, h1, n1, n2]
theorem zc_made {n m : Nat} {c : Row} (hn : n ≤ 8) (hm : m = (n + 1) * (n + 1)) (h : ZC n m c) : Made n c :=
  ⟨drf n m (listOf c m), fun i hi => drf_diag n m _ hm (fun k hk => by
    rw [listOf_get _ _ _ hk]
    have := zc_right hm h k
    simpa only [rightB, decide_eq_true_eq] using this) i hi, zc_zone7 hn hm h⟩
end Go.Proofs.YtnfkmpickmonoaaGreat

/-
  fed: what is left of a zone by the document: the row that grows, and what is told.
-/
namespace Go.Proofs.YtnfkmpickmonoaaGreat
open Go.RowKit Go.Shelf
set_option linter.unusedVariables false
set_option maxRecDepth 100000
theorem zlen7 {n m : Nat} (hm : m = (n + 1) * (n + 1)) : 0 < m := by rw [hm]; exact Nat.mul_pos (by omega) (by omega)
/-! ### What is told -/
end Go.Proofs.YtnfkmpickmonoaaGreat

/-
  fed: what is left of a zone by the document: less.
-/
namespace Go.Proofs.YtnfkmpickmonoaaGreat
open Go.RowKit Go.Shelf
set_option linter.unusedVariables false
set_option maxRecDepth 100000
attribute [local go_sem] Oper.semAt_some
theorem right_not {x v : Int} (hx : rightB x = true) (hv : rightB v = true) (h : ¬ x ≤ v) : -536870912 ≤ v ∧ v ≤ 536870913 ∧ rightB (1 - v) = true := by
  unfold rightB at *
  have a := of_decide_eq_true hx
  have b := of_decide_eq_true hv
  refine ⟨by omega, by omega, decide_eq_true (.inr (by omega))⟩
end Go.Proofs.YtnfkmpickmonoaaGreat

/-
  fed: Minus by the document.
-/
namespace Go.Proofs.YtnfkmpickmonoaaGreat
open Go.RowKit Go.Shelf
set_option linter.unusedVariables false
set_option maxRecDepth 100000
attribute [local go_sem] Oper.semAt_some
/-- A right row of zones. -/
def ZCs (n m : Nat) (cs : List Row) : Prop := ∀ c ∈ cs, ZC n m c ∧ ¬ c 0 < 1
end Go.Proofs.YtnfkmpickmonoaaGreat

/-
  fed: Fewer by the document.
-/
namespace Go.Proofs.YtnfkmpickmonoaaGreat
open Go.RowKit Go.Shelf
set_option linter.unusedVariables false
set_option maxRecDepth 100000
attribute [local go_sem] Oper.semAt_some
theorem atR_get {cs : List Row} {k : Nat} (h : k < cs.length) : atR cs k = cs[k] := by
  unfold atR
  rw [List.getElem?_eq_getElem h]
  rfl
end Go.Proofs.YtnfkmpickmonoaaGreat
