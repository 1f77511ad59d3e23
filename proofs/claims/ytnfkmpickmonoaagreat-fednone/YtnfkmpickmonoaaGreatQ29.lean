/-
  Which zone a matrix makes hangs on the closed matrices below it alone.
-/
import Derived.Test.YtnfkmpickmonoaaGreatQ27
import Derived.Test.YtnfkmpickmonoaaGreatQ28
import Derived.Test.YtnfkmpickmonoaaGreatQ17
import Derived.Test.YtnfkmpickmonoaaGreatQ18
namespace Go.Proofs.YtnfkmpickmonoaaGreat
open Go.RowKit
set_option linter.unusedVariables false
/-- A closed matrix. -/
structure Cl (n : Nat) (q : Mat) : Prop where
  fin : FinM n 144115188075855872 q
  one : One n q
  tri : Tri n (n + 1) q
/-- A matrix that may be closed. -/
structure Ok (n : Nat) (r : Mat) : Prop where
  fin : FinM n (Kb 0) r
  diag : ∀ i, i ≤ n → r i i ≤ 1
theorem Rounds.cl {n : Nat} {r p : Mat} (hn : n ≤ 8) (h : Rounds n (n + 1) r p) : Cl n p := ⟨fin_mono h.fin (Kb_bd (n + 1) (by omega)).2, h.one, h.tri⟩
theorem drf_ok (n m : Nat) (l : List Int) (hm : m = (n + 1) * (n + 1)) (hr : RightL m l) : Ok n (drf n m l) := ⟨drf_fin n m l hm hr, drf_diag n m l hm hr⟩
end Go.Proofs.YtnfkmpickmonoaaGreat

/-
  What becomes of zones by both ways, in numbers: the cells of a zone, Up, Down.
-/
namespace Go.Proofs.YtnfkmpickmonoaaGreat
open Go.RowKit
set_option linter.unusedVariables false
/-- The closed form behind a zone's cells. -/
structure FullC (n m : Nat) (p : Mat) (c : Row) : Prop where
  cl : Cl n p
  low : ∀ j, j ≤ n → p 0 j ≤ 1
  nar : narAll n p m = true
  cells : c = cellsUpto n p m
def ZC (n m : Nat) (c : Row) : Prop := c = (fun _ => 0) ∨ ∃ p, FullC n m p c
theorem zc_of {n m : Nat} {r : Mat} {c : Row} (hn : n ≤ 8) (hm : m = (n + 1) * (n + 1)) (hr : Ok n r) (h0 : ∀ j, j ≤ n → r 0 j ≤ 1) (hz : zoneR n r = some c) : ZC n m c := by
  unfold zoneR at hz
  rw [← hm] at hz
  cases e : closeR n r with
  | none =>
    rw [e] at hz
    cases hz
    exact .inl rfl
  | some p =>
    rw [e] at hz
    have hz : (if narAll n p m = true then some (cellsUpto n p m) else none) = some c := hz
    split at hz
    · rename_i na
      cases hz
      have R := close_rounds hn hr.fin hr.diag e
      exact .inr ⟨p, R.cl hn, fun j hj => Int.le_trans (R.le 0 j (by omega) hj) (h0 j hj), na, rfl⟩
    · cases hz
theorem drf_low (n m : Nat) (l : List Int) (hm : m = (n + 1) * (n + 1)) (j : Nat) (hj : j ≤ n) : drf n m l 0 j ≤ 1 := by
  rw [drf_at n m l hm 0 j (by omega) hj]
  have : startV 0 j = 1 := by unfold startV; rw [if_neg (by omega)]
  rw [this]
  unfold tgV
  split <;> omega
theorem zc_drf {n m : Nat} {l : List Int} {c : Row} (hn : n ≤ 8) (hm : m = (n + 1) * (n + 1)) (hr : RightL m l) (hz : zoneR n (drf n m l) = some c) : ZC n m c :=
  zc_of hn hm (drf_ok n m l hm hr) (fun j hj => drf_low n m l hm j hj) hz
/-! ### Up -/
/-! ### Down -/
end Go.Proofs.YtnfkmpickmonoaaGreat
