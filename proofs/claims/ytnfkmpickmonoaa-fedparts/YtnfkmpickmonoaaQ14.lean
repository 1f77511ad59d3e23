/-
  The contracts of ops: zone once more, Up, Down, free, limit.
-/
import Derived.Test.YtnfkmpickmonoaaQ13
namespace Go.Proofs.Ytnfkmpickmonoaa
open Go.RowKit
set_option linter.unusedVariables false
set_option maxRecDepth 100000
/-- What zone tells of a draft. -/
def OpsOut (w' : World) (B n : Nat) (e : Ending) (r : Mat) : Prop :=
  (allRight (rowsL n r (n + 1)) ((n + 1) * (n + 1)) = false ∧ e = errOf 7) ∨ (allRight (rowsL n r (n + 1)) ((n + 1) * (n + 1)) = true ∧ ZoneOut w' B n e (zoneR n (tgAll n (rowsL n r (n + 1)) ((n + 1) * (n + 1)) (startR n (n + 1) 0))))
def R32 (r : Mat) : Prop := ∀ i j, -2147483648 ≤ r i j ∧ r i j ≤ 2147483647
def C32 (c : Row) : Prop := ∀ k, -2147483648 ≤ c k ∧ c k ≤ 2147483647
theorem oR_32 {n K : Nat} {c : Row} (h : C32 c) : R32 (oR n c K) := fun i j => by
  unfold oR
  split
  · exact h _
  · omega
theorem R32.upd {r : Mat} (h : R32 r) {i j : Nat} {v : Int} (h0 : -2147483648 ≤ v) (h1 : v ≤ 2147483647) : R32 (upd r i j v) := fun a c => by
  unfold Go.Proofs.Ytnfkmpickmonoaa.upd
  split
  · exact ⟨h0, h1⟩
  · exact h a c
theorem OpsOut.form {w' : World} {B n : Nat} {e : Ending} {r : Mat} (h : OpsOut w' B n e r) : ∃ p k, e = .returned (.tuple #[.pointer p, .int .i64 k]) := by
  rcases h with ⟨-, rfl⟩ | ⟨-, h⟩
  · exact ⟨_, _, rfl⟩
  · cases ez : zoneR n (tgAll n (rowsL n r (n + 1)) ((n + 1) * (n + 1)) (startR n (n + 1) 0)) with
    | none => rw [ez] at h; exact ⟨_, _, h⟩
    | some c =>
      rw [ez] at h
      obtain ⟨b', -, h, -⟩ := h
      exact ⟨_, _, h⟩
theorem ozone_out (b n B : Nat) (r : Mat) (w : World) (h : n ≤ 8) (hD : ODraft w b n r) (hi : R32 r) (hB : B ≤ w.heap.size) :
    Calls Try.prog 89 #[.pointer (some ⟨b, 0, none⟩)] w fun e w' => ∃ p k, e = .returned (.tuple #[.pointer p, .int .i64 k]) ∧ Hid (OpsOut w' B n (.returned (.tuple #[.pointer p, .int .i64 k])) r) ∧ Hid (Below w.heap.size w w') := by
  refine (ozone_any b n r w h hD hi).mono ?_
  intro e w' ⟨hb, ho⟩
  have ho' : OpsOut w' B n e r := by
    rcases ho with h1 | ⟨h1, h2⟩
    · exact .inl h1
    · refine .inr ⟨h1, ?_⟩
      cases ez : zoneR n (tgAll n (rowsL n r (n + 1)) ((n + 1) * (n + 1)) (startR n (n + 1) 0)) with
      | none => rw [ez] at h2; exact h2
      | some c =>
        rw [ez] at h2
        obtain ⟨b', q, h3, h4⟩ := h2
        exact ⟨b', Nat.le_trans hB q, h3, h4⟩
  obtain ⟨p, k, rfl⟩ := ho'.form
  exact ⟨p, k, rfl, ho', hb⟩
end Go.Proofs.Ytnfkmpickmonoaa

/-
  The contracts of ops: free, limit, has, bounds, limitOf, exactly, settable.
-/
namespace Go.Proofs.Ytnfkmpickmonoaa
open Go.RowKit
set_option linter.unusedVariables false
set_option maxRecDepth 100000
/-- Of what was there, only block d may have turned. -/
def OnlyB (d : Nat) (w w' : World) : Prop := w.heap.size ≤ w'.heap.size ∧ ∀ k, k < w.heap.size → k ≠ d → w'.heap[k]? = w.heap[k]?
theorem OnlyB.trans {d : Nat} {a b c : World} (h : OnlyB d a b) (k : OnlyB d b c) : OnlyB d a c := ⟨Nat.le_trans h.1 k.1, fun i hi hd => (k.2 i (Nat.lt_of_lt_of_le hi h.1) hd).trans (h.2 i hi hd)⟩
theorem OnlyB.below {d : Nat} {w w' : World} (h : Below w.heap.size w w') : OnlyB d w w' := ⟨h.size, fun k hk _ => h.block k hk⟩
theorem OnlyB.set {d : Nat} {a w : World} (h : OnlyB d a w) {p : Addr} (hp : p.block = d) (v : Value) : OnlyB d a (w.setCell p v) := ⟨by rw [World.size_setCell]; exact h.1, fun k hk hd => by rw [Below.heap_setCell _ _ _ _ (by omega)]; exact h.2 k hk hd⟩
theorem OnlyB.drew {d : Nat} {a w : World} (h : OnlyB d a w) : OnlyB d a w.drew := ⟨h.1, h.2⟩
theorem OnlyB.cell {d : Nat} {w w' : World} (h : OnlyB d w w') {p : Addr} (hp : p.block < w.heap.size) (hd : p.block ≠ d) : w'.cell? p = w.cell? p := World.cell?_of_block (w := w) (h.2 p.block hp hd)
set_option maxHeartbeats 2000000 in
theorem limit_any (b n i j : Nat) (x : Int) (r : Mat) (w : World) (i8 : i ≤ 8) (j8 : j ≤ 8) (hD : ODraft w b n r) :
    Calls Try.prog 97 #[.pointer (some ⟨b, 0, none⟩), .agg #[.int .i64 i, .int .i64 j, .int .i32 x]] w fun e w' => e = .returned (.tuple #[]) ∧ ODraft w' b n (upd r i j (min (r i j) x)) ∧ Below b w w' ∧ OnlyB b w w' := by
  have a0 : (0 : Int) ≤ (i : Int) := by omega
  have a1 : (i : Int) < 9 := by omega
  have a2 : (0 : Int) ≤ (j : Int) := by omega
  have a3 : (j : Int) < 9 := by omega
  have B0 := below_one w (.cells #[.int .i64 i, .int .i64 j, .int .i32 x] 86)
  have hD1 := hideD (hD.past B0)
  have c0 : (w.alloc (.cells #[.int .i64 i, .int .i64 j, .int .i32 x] 86)).cell? ⟨w.heap.size, 0, none⟩ = some (.int .i64 i) := by simp [go_sem]
  have c1 : (w.alloc (.cells #[.int .i64 i, .int .i64 j, .int .i32 x] 86)).cell? ⟨w.heap.size, 1, none⟩ = some (.int .i64 j) := by simp [go_sem]
  have c2 : (w.alloc (.cells #[.int .i64 i, .int .i64 j, .int .i32 x] 86)).cell? ⟨w.heap.size, 2, none⟩ = some (.int .i32 x) := by simp [go_sem]
  have hB1 := hideD (B0.mono (Nat.le_of_lt hD.lt))
  have hO1 := hideD (OnlyB.below (d := b) B0)
  clear B0 hD
  go_enter Try.func97, Try.ntmps97
  go_upto_region 1 with (fail)
  generalize w.alloc (.cells #[.int .i64 i, .int .i64 j, .int .i32 x] 86) = w1 at *
  generalize w.heap.size = bl at *
  go_big_region
  all_goals
    have q1 := hD1.out.cell i j i8 j8
    have q2 := hD1.out.free i j i8 j8
    have hD2 := hideD (fun v => hD1.out.set i8 j8 v)
    have hB2 := hideD (fun v => hB1.out.setCell (p := at9 b i j) (Nat.le_refl _) v)
    have hO2 := hideD (fun v => hO1.out.set (p := at9 b i j) rfl v)
    have MM : Hid (min (r i j) x = if x < r i j then x else r i j) := by show _ = _; split <;> omega
    generalize ey : r i j = y at *
    have EY := hideD ey
    clear ey
    go_wp2_with fail
    go_big_region
  all_goals
    have hD3 := hideD (hD2.out (min y x))
    have hB3 := hideD (hB2.out (.int .i32 (min y x)))
    have hO3 := hideD (hO2.out (.int .i32 (min y x)))
    rw [MM.out] at hD3 hB3 hO3
    have MM' := MM.out
    generalize (if x < y then x else y) = z at *
    have MM := hideD MM'
    clear MM'
    have hD4 := hideD (hD3.out.drew)
    have hB4 := hideD (hB3.out.drew)
    have hD5 := hideD (hD4.out.drew)
    have hB5 := hideD (hB4.out.drew)
    have hO4 := hideD (hO3.out.drew)
    have hO5 := hideD (hO4.out.drew)
    go_wp2_with fail
    go_end0
    exact ⟨rfl, by rw [EY.out, MM.out]; first | exact hD3.out | exact hD4.out | exact hD5.out, by first | exact hB3.out | exact hB4.out | exact hB5.out, by first | exact hO3.out | exact hO4.out | exact hO5.out⟩
theorem bounds_any (n : Nat) (i j x : Int) (w : World) :
    Calls Try.prog 96 #[.agg #[.int .i64 n], .agg #[.int .i64 i, .int .i64 j, .int .i32 x]] w fun e w' => e = .returned (.bool (decide (0 ≤ i ∧ i ≤ n ∧ 0 ≤ j ∧ j ≤ n))) ∧ Below w.heap.size w w' := by
  have B0 : Hid (Below w.heap.size w ((w.alloc (.cells #[.int .i64 n] 142)).alloc (.cells #[.int .i64 i, .int .i64 j, .int .i32 x] 86))) := ((Below.refl _ _).alloc (Nat.le_refl _) _).alloc (by simp) _
  by_cases h1 : 0 ≤ i
  · by_cases h2 : i ≤ n
    · by_cases h3 : 0 ≤ j
      · by_cases h4 : j ≤ n
        · rw [decide_eq_true ⟨h1, h2, h3, h4⟩]
          go_enter Try.func96, Try.ntmps96
          go_wp2_with fail
          go_ret
          exact ⟨rfl, B0.out⟩
        · rw [decide_eq_false (by omega)]
          go_enter Try.func96, Try.ntmps96
          go_wp2_with fail
          go_ret
          exact ⟨rfl, B0.out⟩
      · rw [decide_eq_false (by omega)]
        go_enter Try.func96, Try.ntmps96
        go_wp2_with fail
        go_ret
        exact ⟨rfl, B0.out⟩
    · rw [decide_eq_false (by omega)]
      go_enter Try.func96, Try.ntmps96
      go_wp2_with fail
      go_ret
      exact ⟨rfl, B0.out⟩
  · rw [decide_eq_false (by omega)]
    go_enter Try.func96, Try.ntmps96
    go_wp2_with fail
    go_ret
    exact ⟨rfl, B0.out⟩
end Go.Proofs.Ytnfkmpickmonoaa

/-
  The contracts of ops: Reset, Free.
-/
namespace Go.Proofs.Ytnfkmpickmonoaa
open Go.RowKit
set_option linter.unusedVariables false
set_option maxRecDepth 100000
def limM (r : Mat) (i j : Nat) (v : Int) : Mat := upd r i j (min (r i j) v)
theorem limM_32 {r : Mat} (h : R32 r) {i j : Nat} {v : Int} (h0 : -2147483648 ≤ v) : R32 (limM r i j v) := h.upd (by have := (h i j).1; omega) (by have := (h i j).2; omega)
end Go.Proofs.Ytnfkmpickmonoaa
