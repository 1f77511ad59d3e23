/-
  bound.Not.
-/
import Derived.Test.YtnfkmpickmonoaaQ6
import Derived.Test.YtnfkmpickmonoaaQ33
import Derived.Test.YtnfkmpickmonoaaQ19
namespace Go.Proofs.Ytnfkmpickmonoaa
open Go.RowKit
set_option linter.unusedVariables false
def notB (b : Int) : Int := if finB b then ofB (-(valV b)) (!valR b) else 0
def notE (b : Int) : Int := if rightB b then (if finB b then ofE (-(valV b)) else 4) else 7
theorem not_any (b : Int) (w : World) :
    Calls Try.prog 98 #[.int .i32 b] w fun e w' => e = .returned (.tuple #[.int .i32 (notB b), .int .i64 (notE b)]) ∧ w' = w := by
  cases f : finB b
  · have e1 : notB b = 0 := by simp [notB, f]
    rw [e1]
    cases r : rightB b
    · have e2 : notE b = 7 := by simp [notE, r]
      rw [e2]
      clear e1 e2
      go_enter Try.func98, Try.ntmps98
      go_wp2_with (go_at_call 31; refine (right_any _ _).mono ?_; rintro e w' ⟨rfl, rfl⟩)
      go_ret2
      exact ⟨rfl, rfl⟩
    · have e2 : notE b = 4 := by simp [notE, r, f]
      rw [e2]
      clear e1 e2
      go_enter Try.func98, Try.ntmps98
      go_wp2_with (first | (go_at_call 31; refine (right_any _ _).mono ?_; rintro e w' ⟨rfl, rfl⟩) | (go_at_call 103; refine (value_any _ _).mono ?_; rintro e w' ⟨rfl, rfl⟩))
      go_ret2
      exact ⟨rfl, rfl⟩
  · have r := right_of_fin f
    have l := (fin_iff b).1 f
    have l0 : -268435456 ≤ valV b := by simp [valV, f]; omega
    have l1 : valV b ≤ 268435456 := by simp [valV, f]; omega
    have e1 : notB b = ofB (-(valV b)) (!valR b) := by simp [notB, f]
    have e2 : notE b = ofE (-(valV b)) := by simp [notE, r, f]
    rw [e1, e2]
    clear e1 e2 l
    go_enter Try.func98, Try.ntmps98
    go_wp2_with (first | (go_at_call 31; refine (right_any _ _).mono ?_; rintro e w' ⟨rfl, rfl⟩) | (go_at_call 103; refine (value_any _ _).mono ?_; rintro e w' ⟨rfl, rfl⟩) | (go_at_call 104; refine (of_any _ _ _).mono ?_; rintro e w' ⟨rfl, rfl⟩))
    go_ret2
    exact ⟨rfl, rfl⟩
end Go.Proofs.Ytnfkmpickmonoaa

/-
  fed.keeps, fed.opposite.
-/
namespace Go.Proofs.Ytnfkmpickmonoaa
open Go.RowKit
set_option linter.unusedVariables false
set_option maxRecDepth 100000
theorem fkeeps_any (b n i j : Nat) (c : Row) (v : Int) (w : World) (hn : n ≤ 8) (hz : ZoneAt w b n c) (hi : i ≤ n) (hj : j ≤ n) :
    Calls Try.prog 79 #[.pointer (some ⟨b, 0, none⟩), .agg #[.int .i64 (i : Int), .int .i64 (j : Int), .int .i32 v]] w fun e w' => e = .returned (.bool (decide (c (i * (n + 1) + j) ≤ v))) ∧ Below w.heap.size w w' := by
  have B0 := below_one w (.cells #[.int .i64 (i : Int), .int .i64 (j : Int), .int .i32 v] 86)
  have H := hideD (cell_in b n i j c _ hn (hz.past B0) hi hj)
  generalize c (i * (n + 1) + j) = x at *
  have BB := hideD B0
  clear hz hn hi hj B0
  go_enter Try.func79, Try.ntmps79
  go_wp2_with fail
  refine H.out.mono ?_
  rintro e w1 ⟨rfl, hb⟩
  have s2 := kc ⟨w.heap.size, 2, none⟩ (.int .i32 v) hb (by simp [go_sem])
  have B1 := hideD (beyondD BB.out hb)
  clear hb H BB
  go_wp2_with fail
  go_ret
  exact ⟨rfl, B1.out⟩
theorem opp_any (i j v : Int) (w : World) :
    Calls Try.prog 81 #[.agg #[.int .i64 i, .int .i64 j, .int .i32 v]] w fun e w' => e = .returned (.agg #[.int .i64 j, .int .i64 i, .int .i32 (notB v)]) ∧ Below w.heap.size w w' := by
  have HN := hideD (fun w => not_any v w)
  generalize notB v = x at *
  generalize notE v = y at *
  go_enter Try.func81, Try.ntmps81
  go_wp2_with fail
  refine (HN.out _).mono ?_
  rintro e w1 ⟨rfl, rfl⟩
  clear HN
  go_wp2_with fail
  refine bodyPost_ret (v := .agg #[.int .i64 j, .int .i64 i, .int .i32 x]) (by simp [results, Try.results81, go_sem, *]) rfl ⟨rfl, ?_⟩
  exact ((Below.refl _ _).alloc (Nat.le_refl _) _).alloc (by simp) _
end Go.Proofs.Ytnfkmpickmonoaa
