/-
  The contracts of ops: free, limit, has, bounds, limitOf, exactly, settable.
-/
import Derived.Test.YtnfkmpickmonoaaGreatQ18
namespace Go.Proofs.YtnfkmpickmonoaaGreat
open Go.RowKit
set_option linter.unusedVariables false
set_option maxRecDepth 100000
/-- Of what was there, only block d may have turned. -/
def OnlyB (d : Nat) (w w' : World) : Prop := w.heap.size ≤ w'.heap.size ∧ ∀ k, k < w.heap.size → k ≠ d → w'.heap[k]? = w.heap[k]?
theorem OnlyB.below {d : Nat} {w w' : World} (h : Below w.heap.size w w') : OnlyB d w w' := ⟨h.size, fun k hk _ => h.block k hk⟩
theorem OnlyB.set {d : Nat} {a w : World} (h : OnlyB d a w) {p : Addr} (hp : p.block = d) (v : Value) : OnlyB d a (w.setCell p v) := ⟨by rw [World.size_setCell]; exact h.1, fun k hk hd => by rw [Below.heap_setCell _ _ _ _ (by omega)]; exact h.2 k hk hd⟩
theorem OnlyB.drew {d : Nat} {a w : World} (h : OnlyB d a w) : OnlyB d a w.drew := ⟨h.1, h.2⟩
set_option maxHeartbeats 2000000 in
theorem limit_any (b n i j : Nat) (x : Int) (r : Mat) (w : World) (i8 : i ≤ 8) (j8 : j ≤ 8) (hD : ODraft w b n r) :
    Calls Tryz.prog 112 #[.pointer (some ⟨b, 0, none⟩), .agg #[.int .i64 i, .int .i64 j, .int .i32 x]] w fun e w' => e = .returned (.tuple #[]) ∧ ODraft w' b n (upd r i j (min (r i j) x)) ∧ Below b w w' ∧ OnlyB b w w' := by
  have a0 : (0 : Int) ≤ (i : Int) := by omega
  have a1 : (i : Int) < 9 := by omega
  have a2 : (0 : Int) ≤ (j : Int) := by omega
  have a3 : (j : Int) < 9 := by omega
  have B0 := below_one w (.cells #[.int .i64 i, .int .i64 j, .int .i32 x] 90)
  have hD1 := hideD (hD.past B0)
  have c0 : (w.alloc (.cells #[.int .i64 i, .int .i64 j, .int .i32 x] 90)).cell? ⟨w.heap.size, 0, none⟩ = some (.int .i64 i) := by simp [go_sem]
  have c1 : (w.alloc (.cells #[.int .i64 i, .int .i64 j, .int .i32 x] 90)).cell? ⟨w.heap.size, 1, none⟩ = some (.int .i64 j) := by simp [go_sem]
  have c2 : (w.alloc (.cells #[.int .i64 i, .int .i64 j, .int .i32 x] 90)).cell? ⟨w.heap.size, 2, none⟩ = some (.int .i32 x) := by simp [go_sem]
  have hB1 := hideD (B0.mono (Nat.le_of_lt hD.lt))
  have hO1 := hideD (OnlyB.below (d := b) B0)
  clear B0 hD
  go_enter Tryz.func112, Tryz.ntmps112
  go_upto_region 1 with (fail)
  generalize w.alloc (.cells #[.int .i64 i, .int .i64 j, .int .i32 x] 90) = w1 at *
  generalize w.heap.size = bl at *
  go_big_region
  all_goals
    have q1 := hD1.out.cell i j i8 j8
    have q2 := hD1.out.free i j i8 j8
    have hD2 := hideD (fun v => hD1.out.set i8 j8 v)
    have hB2 := hideD (fun v => hB1.out.setCell (p := at9 b i j) (Nat.le_refl _) v)
    have hO2 := hideD (fun v => hO1.out.set (p := at9 b i j) rfl v)
    have MM : Hid (min (r i j) x = if x < r i j then x else r i j) := by show _ = _; split <;> omega
    generalize ey : r i j = y at *
    have EY := hideD ey
    clear ey
    go_wp2_with fail
    go_big_region
  all_goals
    have hD3 := hideD (hD2.out (min y x))
    have hB3 := hideD (hB2.out (.int .i32 (min y x)))
    have hO3 := hideD (hO2.out (.int .i32 (min y x)))
    rw [MM.out] at hD3 hB3 hO3
    have MM' := MM.out
    generalize (if x < y then x else y) = z at *
    have MM := hideD MM'
    clear MM'
    have hD4 := hideD (hD3.out.drew)
    have hB4 := hideD (hB3.out.drew)
    have hD5 := hideD (hD4.out.drew)
    have hB5 := hideD (hB4.out.drew)
    have hO4 := hideD (hO3.out.drew)
    have hO5 := hideD (hO4.out.drew)
    go_wp2_with fail
    go_end0
    exact ⟨rfl, by rw [EY.out, MM.out]; first | exact hD3.out | exact hD4.out | exact hD5.out, by first | exact hB3.out | exact hB4.out | exact hB5.out, by first | exact hO3.out | exact hO4.out | exact hO5.out⟩
theorem bounds_any (n : Nat) (i j x : Int) (w : World) :
    Calls Tryz.prog 111 #[.agg #[.int .i64 n], .agg #[.int .i64 i, .int .i64 j, .int .i32 x]] w fun e w' => e = .returned (.bool (decide (0 ≤ i ∧ i ≤ n ∧ 0 ≤ j ∧ j ≤ n))) ∧ Below w.heap.size w w' := by
  have B0 : Hid (Below w.heap.size w ((w.alloc (.cells #[.int .i64 n] 157)).alloc (.cells #[.int .i64 i, .int .i64 j, .int .i32 x] 90))) := ((Below.refl _ _).alloc (Nat.le_refl _) _).alloc (by simp) _
  by_cases h1 : 0 ≤ i
  · by_cases h2 : i ≤ n
    · by_cases h3 : 0 ≤ j
      · by_cases h4 : j ≤ n
        · rw [decide_eq_true ⟨h1, h2, h3, h4⟩]
          go_enter Tryz.func111, Tryz.ntmps111
          go_wp2_with fail
          go_ret
          exact ⟨rfl, B0.out⟩
        · rw [decide_eq_false (by omega)]
          go_enter Tryz.func111, Tryz.ntmps111
          go_wp2_with fail
          go_ret
          exact ⟨rfl, B0.out⟩
      · rw [decide_eq_false (by omega)]
        go_enter Tryz.func111, Tryz.ntmps111
        go_wp2_with fail
        go_ret
        exact ⟨rfl, B0.out⟩
    · rw [decide_eq_false (by omega)]
      go_enter Tryz.func111, Tryz.ntmps111
      go_wp2_with fail
      go_ret
      exact ⟨rfl, B0.out⟩
  · rw [decide_eq_false (by omega)]
    go_enter Tryz.func111, Tryz.ntmps111
    go_wp2_with fail
    go_ret
    exact ⟨rfl, B0.out⟩
end Go.Proofs.YtnfkmpickmonoaaGreat
