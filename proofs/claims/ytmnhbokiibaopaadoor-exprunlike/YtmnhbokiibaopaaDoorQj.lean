/-
  expr.End; the document's parts, End, truth, numbers, Right.
-/
import Derived.Test.YtmnhbokiibaopaaDoorQi
import Derived.Test.YtmnhbokiibaopaaDoorQg
namespace Go.Proofs.YtmnhbokiibaopaaDoor
open Go.RowKit
set_option linter.unusedVariables false
theorem pt_out (o : Nat) (N : Int) (h : 15 ≤ o) : pt (o, N) = 0 := by
  show (opR o).1 = 0
  rw [opR_out o h]
theorem pt_N (o : Nat) (N : Int) : pt (o, N) = (opR o).1 := rfl
set_option maxRecDepth 100000 in
theorem parts_any (o : Nat) (w : World) : Calls Tryd.prog 39 #[.int .u8 (o : Int)] w fun e w' => e = .returned (.int .i64 ((opR o).1 : Int)) ∧ Below w.heap.size w w' := by
  have B := hideR (Below.refl w.heap.size w)
  by_cases h : o < 15
  · have : o = 0 ∨ o = 1 ∨ o = 2 ∨ o = 3 ∨ o = 4 ∨ o = 5 ∨ o = 6 ∨ o = 7 ∨ o = 8 ∨ o = 9 ∨ o = 10 ∨ o = 11 ∨ o = 12 ∨ o = 13 ∨ o = 14 := by omega
    rcases this with rfl | rfl | rfl | rfl | rfl | rfl | rfl | rfl | rfl | rfl | rfl | rfl | rfl | rfl | rfl
    all_goals
      go_enter Tryd.func39, Tryd.ntmps39
      go_wp2_with fail
      go_ret
      exact ⟨rfl, B.out⟩
  · rw [opR_out o (by omega)]
    have i3 : ((o : Int) == 3) = false := by simp; omega
    have i12 : ((o : Int) == 12) = false := by simp; omega
    have i4 : ((o : Int) == 4) = false := by simp; omega
    have i5 : ((o : Int) == 5) = false := by simp; omega
    have i6 : ((o : Int) == 6) = false := by simp; omega
    have i8 : ((o : Int) == 8) = false := by simp; omega
    have i9 : ((o : Int) == 9) = false := by simp; omega
    have i10 : ((o : Int) == 10) = false := by simp; omega
    have i11 : ((o : Int) == 11) = false := by simp; omega
    have i13 : ((o : Int) == 13) = false := by simp; omega
    have i14 : ((o : Int) == 14) = false := by simp; omega
    go_enter Tryd.func39, Tryd.ntmps39
    go_wp2_with fail
    go_ret
    exact ⟨rfl, B.out⟩
def truthO (o : Nat) : Bool := decide (7 ≤ o) && decide (o ≤ 14)
set_option maxRecDepth 100000 in
theorem truth_any (o : Nat) (w : World) : Calls Tryd.prog 41 #[.int .u8 (o : Int)] w fun e w' => e = .returned (.bool (truthO o)) ∧ Below w.heap.size w w' := by
  have B := hideR (Below.refl w.heap.size w)
  unfold truthO
  by_cases h : 7 ≤ o
  · by_cases g : o ≤ 14
    · have h1 : (7 : Int) ≤ (o : Int) := by omega
      have h2 : (o : Int) ≤ 14 := by omega
      rw [decide_eq_true h, decide_eq_true g]
      go_enter Tryd.func41, Tryd.ntmps41
      go_wp2_with fail
      go_ret
      exact ⟨rfl, B.out⟩
    · have h1 : (7 : Int) ≤ (o : Int) := by omega
      have h2 : ¬ (o : Int) ≤ 14 := by omega
      rw [decide_eq_true h, decide_eq_false g]
      go_enter Tryd.func41, Tryd.ntmps41
      go_wp2_with fail
      go_ret
      exact ⟨rfl, B.out⟩
  · have h1 : ¬ (7 : Int) ≤ (o : Int) := by omega
    rw [decide_eq_false h]
    go_enter Tryd.func41, Tryd.ntmps41
    go_wp2_with fail
    go_ret
    exact ⟨rfl, B.out⟩
def numsO (o : Nat) : Bool := o == 3 || o == 4 || o == 5 || o == 6 || (decide (8 ≤ o) && decide (o ≤ 11))
set_option maxRecDepth 100000 in
theorem nums_any (o : Nat) (h : o < 15) (w : World) : Calls Tryd.prog 42 #[.int .u8 (o : Int)] w fun e w' => e = .returned (.bool (numsO o)) ∧ Below w.heap.size w w' := by
  have B := hideR (Below.refl w.heap.size w)
  have : o = 0 ∨ o = 1 ∨ o = 2 ∨ o = 3 ∨ o = 4 ∨ o = 5 ∨ o = 6 ∨ o = 7 ∨ o = 8 ∨ o = 9 ∨ o = 10 ∨ o = 11 ∨ o = 12 ∨ o = 13 ∨ o = 14 := by omega
  rcases this with rfl | rfl | rfl | rfl | rfl | rfl | rfl | rfl | rfl | rfl | rfl | rfl | rfl | rfl | rfl
  all_goals
    go_enter Tryd.func42, Tryd.ntmps42
    go_wp2_with fail
    go_ret
    exact ⟨rfl, B.out⟩
/-- A part's kind, as the document asks. -/
theorem part_kind (n r : Node) (hn : 1 ≤ n.1 ∧ n.1 ≤ 14) (hr : 1 ≤ r.1 ∧ r.1 ≤ 14) (hp : 1 ≤ pt n) : truthO r.1 = numsO n.1 ↔ ¬ kd r = (opR n.1).2.1 := by
  obtain ⟨o, N⟩ := n
  obtain ⟨q, M⟩ := r
  simp only at *
  have : ∀ o : Nat, o < 15 → ∀ q : Nat, q < 15 → (1 ≤ o ∧ 1 ≤ q ∧ 1 ≤ (opR o).1) → (truthO q = numsO o ↔ ¬ (opR q).2.2.1 = (opR o).2.1) := by decide +kernel
  exact this o (by omega) q (by omega) ⟨hn.1, hr.1, hp⟩
end Go.Proofs.YtmnhbokiibaopaaDoor
