/-
  fed.keeps, fed.opposite.
-/
import Derived.Test.YtnfkmpickmonoaaGreatQ37
import Derived.Test.YtnfkmpickmonoaaGreatQ38
import Derived.Test.YtnfkmpickmonoaaGreatQ21
namespace Go.Proofs.YtnfkmpickmonoaaGreat
open Go.RowKit
set_option linter.unusedVariables false
set_option maxRecDepth 100000
theorem fkeeps_any (b n i j : Nat) (c : Row) (v : Int) (w : World) (hn : n ≤ 8) (hz : ZoneAt w b n c) (hi : i ≤ n) (hj : j ≤ n) :
    Calls Tryz.prog 81 #[.pointer (some ⟨b, 0, none⟩), .agg #[.int .i64 (i : Int), .int .i64 (j : Int), .int .i32 v]] w fun e w' => e = .returned (.bool (decide (c (i * (n + 1) + j) ≤ v))) ∧ Below w.heap.size w w' := by
  have B0 := below_one w (.cells #[.int .i64 (i : Int), .int .i64 (j : Int), .int .i32 v] 90)
  have H := hideD (cell_in b n i j c _ hn (hz.past B0) hi hj)
  generalize c (i * (n + 1) + j) = x at *
  have BB := hideD B0
  clear hz hn hi hj B0
  go_enter Tryz.func81, Tryz.ntmps81
  go_wp2_with fail
  refine H.out.mono ?_
  rintro e w1 ⟨rfl, hb⟩
  have s2 := kc ⟨w.heap.size, 2, none⟩ (.int .i32 v) hb (by simp [go_sem])
  have B1 := hideD (beyondD BB.out hb)
  clear hb H BB
  go_wp2_with fail
  go_ret
  exact ⟨rfl, B1.out⟩
theorem opp_any (i j v : Int) (w : World) :
    Calls Tryz.prog 83 #[.agg #[.int .i64 i, .int .i64 j, .int .i32 v]] w fun e w' => e = .returned (.agg #[.int .i64 j, .int .i64 i, .int .i32 (notB v)]) ∧ Below w.heap.size w w' := by
  have HN := hideD (fun w => not_any v w)
  generalize notB v = x at *
  generalize notE v = y at *
  go_enter Tryz.func83, Tryz.ntmps83
  go_wp2_with fail
  refine (HN.out _).mono ?_
  rintro e w1 ⟨rfl, rfl⟩
  clear HN
  go_wp2_with fail
  refine bodyPost_ret (v := .agg #[.int .i64 j, .int .i64 i, .int .i32 x]) (by simp [results, Tryz.results83, go_sem, *]) rfl ⟨rfl, ?_⟩
  exact ((Below.refl _ _).alloc (Nat.le_refl _) _).alloc (by simp) _
end Go.Proofs.YtnfkmpickmonoaaGreat
