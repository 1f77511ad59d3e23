/-
  The contracts of ops: free, limit, has, bounds, limitOf, exactly, settable.
-/
import Derived.Test.YtjanibholjimkaaQ20
namespace Go.Proofs.Ytjanibholjimkaa
open Go.RowKit
set_option linter.unusedVariables false
set_option maxRecDepth 100000
/-- Of what was there, only block d may have turned. -/
def OnlyB (d : Nat) (w w' : World) : Prop := w.heap.size ≤ w'.heap.size ∧ ∀ k, k < w.heap.size → k ≠ d → w'.heap[k]? = w.heap[k]?
theorem OnlyB.refl (d : Nat) (w : World) : OnlyB d w w := ⟨Nat.le_refl _, fun _ _ _ => rfl⟩
theorem OnlyB.trans {d : Nat} {a b c : World} (h : OnlyB d a b) (k : OnlyB d b c) : OnlyB d a c := ⟨Nat.le_trans h.1 k.1, fun i hi hd => (k.2 i (Nat.lt_of_lt_of_le hi h.1) hd).trans (h.2 i hi hd)⟩
theorem OnlyB.below {d : Nat} {w w' : World} (h : Below w.heap.size w w') : OnlyB d w w' := ⟨h.size, fun k hk _ => h.block k hk⟩
theorem OnlyB.set {d : Nat} {a w : World} (h : OnlyB d a w) {p : Addr} (hp : p.block = d) (v : Value) : OnlyB d a (w.setCell p v) := ⟨by rw [World.size_setCell]; exact h.1, fun k hk hd => by rw [Below.heap_setCell _ _ _ _ (by omega)]; exact h.2 k hk hd⟩
theorem OnlyB.drew {d : Nat} {a w : World} (h : OnlyB d a w) : OnlyB d a w.drew := ⟨h.1, h.2⟩
theorem OnlyB.cell {d : Nat} {w w' : World} (h : OnlyB d w w') {p : Addr} (hp : p.block < w.heap.size) (hd : p.block ≠ d) : w'.cell? p = w.cell? p := World.cell?_of_block (w := w) (h.2 p.block hp hd)
theorem OnlyB.frozen {d : Nat} {w w' : World} (h : OnlyB d w w') {p : Addr} (hp : p.block < w.heap.size) (hd : p.block ≠ d) : w'.frozen? p = w.frozen? p := World.frozen?_of_block (w := w) (h.2 p.block hp hd)
def freeS (x i : Nat) (r : Mat) : Mat := upd (upd r x i 2147483647) i x (upd r x i 2147483647 i 0)
def freeK (x : Nat) : Nat → Mat → Mat
  | 0, r => r
  | K + 1, r => freeS x K (freeK x K r)
theorem freeK_32 {x : Nat} {r : Mat} (h : R32 r) : ∀ K, R32 (freeK x K r)
  | 0 => h
  | K + 1 => by
    have h1 := (freeK_32 (x := x) h K).upd (i := x) (j := K) (v := 2147483647) (by omega) (by omega)
    exact h1.upd (h1 K 0).1 (h1 K 0).2
set_option maxHeartbeats 2000000 in
theorem free_any (b n x : Nat) (r : Mat) (w : World) (h : n ≤ 8) (hx : x ≤ 8) (hD : ODraft w b n r) :
    Calls Try.prog 29 #[.pointer (some ⟨b, 0, none⟩), .int .i64 x] w fun e w' => e = .returned (.tuple #[]) ∧ ODraft w' b n (freeK x (n + 1) r) ∧ Below b w w' ∧ OnlyB b w w' := by
  have HD := hideD hD
  have x0 : (0 : Int) ≤ (x : Int) := by omega
  have x9 : (x : Int) < 9 := by omega
  clear hD
  go_enter Try.func29, Try.ntmps29
  go_wp2_with fail
  go_loopw [4] (fun s wr => ∃ (K : Nat), K ≤ n + 1 ∧ s = .int .i64 (K : Int) ∧ Hid (ODraft wr b n (freeK x K r)) ∧ Hid (Below b w wr) ∧ Hid (OnlyB b w wr)) (fun s _ => n + 1 - (intOf s).toNat)
  case atStart => exact ⟨0, by omega, rfl, HD, Below.refl _ _, OnlyB.refl _ _⟩
  case round =>
    obtain ⟨K, hK, rfl, hD, hB, hO⟩ := hrel
    clear HD
    have q0 := hD.out.clocks
    by_cases ck : K ≤ n
    · have k9 : (K : Int) < 9 := by omega
      have q1 := hD.out.cell x K hx (by omega)
      have q2 := hD.out.free x K hx (by omega)
      have hD2 := hideD (hD.out.set (i := x) (j := K) hx (by omega) 2147483647)
      have hB2 := hideD (hB.out.setCell (p := at9 b x K) (Nat.le_refl _) (.int .i32 2147483647))
      have hO2 := hideD (hO.out.set (p := at9 b x K) rfl (.int .i32 2147483647))
      have nx : Hid (freeK x (K + 1) r = upd (upd (freeK x K r) x K 2147483647) K x (upd (freeK x K r) x K 2147483647 K 0)) := rfl
      generalize freeK x K r = s at *
      clear hD hB hO
      go_upto_region 4 with (fail)
      generalize wr.setCell (at9 b x K) (.int .i32 2147483647) = w2 at *
      clear q0 q1 q2
      have q0 := hD2.out.clocks
      have q1 := hD2.out.cell K x (by omega) hx
      have q2 := hD2.out.free K x (by omega) hx
      have q3 : w2.cell? ⟨b, 1 + K * 9, none⟩ = some (.int .i32 (upd s x K 2147483647 K 0)) := hD2.out.cell K 0 (by omega) (by omega)
      have hD3 := hideD (hD2.out.set (i := K) (j := x) (by omega) hx (upd s x K 2147483647 K 0))
      have hB3 := hideD (hB2.out.setCell (p := at9 b K x) (Nat.le_refl _) (.int .i32 (upd s x K 2147483647 K 0)))
      have hO3 := hideD (hO2.out.set (p := at9 b K x) rfl (.int .i32 (upd s x K 2147483647 K 0)))
      rw [← nx.out] at hD3
      generalize upd s x K 2147483647 K 0 = y at *
      clear hD2 hB2 hO2
      go_big_region
      all_goals
        have hD4 := hideD (hD3.out.drew)
        have hB4 := hideD (hB3.out.drew)
        have hO4 := hideD (hO3.out.drew)
        go_wp2_with fail
        go_roundw
        case rel => exact ⟨K + 1, by omega, by go_num, by first | exact hD4 | exact hD3, by first | exact hB4 | exact hB3, by first | exact hO4 | exact hO3⟩
        case measure => simp [intOf]; omega
    · have eK : K = n + 1 := by omega
      subst eK
      go_wp2_with fail
      go_end0
      exact ⟨rfl, hD.out, hB.out, hO.out⟩
set_option maxHeartbeats 2000000 in
theorem limit_any (b n i j : Nat) (x : Int) (r : Mat) (w : World) (i8 : i ≤ 8) (j8 : j ≤ 8) (hD : ODraft w b n r) :
    Calls Try.prog 31 #[.pointer (some ⟨b, 0, none⟩), .agg #[.int .i64 i, .int .i64 j, .int .i32 x]] w fun e w' => e = .returned (.tuple #[]) ∧ ODraft w' b n (upd r i j (min (r i j) x)) ∧ Below b w w' ∧ OnlyB b w w' := by
  have a0 : (0 : Int) ≤ (i : Int) := by omega
  have a1 : (i : Int) < 9 := by omega
  have a2 : (0 : Int) ≤ (j : Int) := by omega
  have a3 : (j : Int) < 9 := by omega
  have B0 := below_one w (.cells #[.int .i64 i, .int .i64 j, .int .i32 x] 43)
  have hD1 := hideD (hD.past B0)
  have c0 : (w.alloc (.cells #[.int .i64 i, .int .i64 j, .int .i32 x] 43)).cell? ⟨w.heap.size, 0, none⟩ = some (.int .i64 i) := by simp [go_sem]
  have c1 : (w.alloc (.cells #[.int .i64 i, .int .i64 j, .int .i32 x] 43)).cell? ⟨w.heap.size, 1, none⟩ = some (.int .i64 j) := by simp [go_sem]
  have c2 : (w.alloc (.cells #[.int .i64 i, .int .i64 j, .int .i32 x] 43)).cell? ⟨w.heap.size, 2, none⟩ = some (.int .i32 x) := by simp [go_sem]
  have hB1 := hideD (B0.mono (Nat.le_of_lt hD.lt))
  have hO1 := hideD (OnlyB.below (d := b) B0)
  clear B0 hD
  go_enter Try.func31, Try.ntmps31
  go_upto_region 1 with (fail)
  generalize w.alloc (.cells #[.int .i64 i, .int .i64 j, .int .i32 x] 43) = w1 at *
  generalize w.heap.size = bl at *
  go_big_region
  all_goals
    have q1 := hD1.out.cell i j i8 j8
    have q2 := hD1.out.free i j i8 j8
    have hD2 := hideD (fun v => hD1.out.set i8 j8 v)
    have hB2 := hideD (fun v => hB1.out.setCell (p := at9 b i j) (Nat.le_refl _) v)
    have hO2 := hideD (fun v => hO1.out.set (p := at9 b i j) rfl v)
    have MM : Hid (min (r i j) x = if x < r i j then x else r i j) := by show _ = _; split <;> omega
    generalize ey : r i j = y at *
    have EY := hideD ey
    clear ey
    go_wp2_with fail
    go_big_region
  all_goals
    have hD3 := hideD (hD2.out (min y x))
    have hB3 := hideD (hB2.out (.int .i32 (min y x)))
    have hO3 := hideD (hO2.out (.int .i32 (min y x)))
    rw [MM.out] at hD3 hB3 hO3
    have MM' := MM.out
    generalize (if x < y then x else y) = z at *
    have MM := hideD MM'
    clear MM'
    have hD4 := hideD (hD3.out.drew)
    have hB4 := hideD (hB3.out.drew)
    have hD5 := hideD (hD4.out.drew)
    have hB5 := hideD (hB4.out.drew)
    have hO4 := hideD (hO3.out.drew)
    have hO5 := hideD (hO4.out.drew)
    go_wp2_with fail
    go_end0
    exact ⟨rfl, by rw [EY.out, MM.out]; first | exact hD3.out | exact hD4.out | exact hD5.out, by first | exact hB3.out | exact hB4.out | exact hB5.out, by first | exact hO3.out | exact hO4.out | exact hO5.out⟩
theorem bounds_any (n : Nat) (i j x : Int) (w : World) :
    Calls Try.prog 34 #[.agg #[.int .i64 n], .agg #[.int .i64 i, .int .i64 j, .int .i32 x]] w fun e w' => e = .returned (.bool (decide (0 ≤ i ∧ i ≤ n ∧ 0 ≤ j ∧ j ≤ n))) ∧ Below w.heap.size w w' := by
  have B0 : Hid (Below w.heap.size w ((w.alloc (.cells #[.int .i64 n] 64)).alloc (.cells #[.int .i64 i, .int .i64 j, .int .i32 x] 43))) := ((Below.refl _ _).alloc (Nat.le_refl _) _).alloc (by simp) _
  by_cases h1 : 0 ≤ i
  · by_cases h2 : i ≤ n
    · by_cases h3 : 0 ≤ j
      · by_cases h4 : j ≤ n
        · rw [decide_eq_true ⟨h1, h2, h3, h4⟩]
          go_enter Try.func34, Try.ntmps34
          go_wp2_with fail
          go_ret
          exact ⟨rfl, B0.out⟩
        · rw [decide_eq_false (by omega)]
          go_enter Try.func34, Try.ntmps34
          go_wp2_with fail
          go_ret
          exact ⟨rfl, B0.out⟩
      · rw [decide_eq_false (by omega)]
        go_enter Try.func34, Try.ntmps34
        go_wp2_with fail
        go_ret
        exact ⟨rfl, B0.out⟩
    · rw [decide_eq_false (by omega)]
      go_enter Try.func34, Try.ntmps34
      go_wp2_with fail
      go_ret
      exact ⟨rfl, B0.out⟩
  · rw [decide_eq_false (by omega)]
    go_enter Try.func34, Try.ntmps34
    go_wp2_with fail
    go_ret
    exact ⟨rfl, B0.out⟩
theorem limitOf_any (i j n : Int) (s : Bool) (w : World) :
    Calls Try.prog 52 #[.int .i64 i, .int .i64 j, .int .i64 n, .bool s] w fun e w' => e = .returned (.agg #[.int .i64 i, .int .i64 j, .int .i32 (ofB n (!s))]) ∧ Below w.heap.size w w' := by
  have H1 : Hid (∀ w, Calls Try.prog 64 #[.int .i64 n] w fun e w' => e = .returned (.tuple #[.int .i32 (ofB n true), .int .i64 (ofE n)]) ∧ w' = w) := fun w => atMost_any n w
  have H2 : Hid (∀ w, Calls Try.prog 65 #[.int .i64 n] w fun e w' => e = .returned (.tuple #[.int .i32 (ofB n false), .int .i64 (ofE n)]) ∧ w' = w) := fun w => lessThan_any n w
  cases s
  · go_enter Try.func52, Try.ntmps52
    go_wp2_with fail
    refine (H1.out _).mono ?_
    rintro e w' ⟨rfl, rfl⟩
    go_wp2_with fail
    refine bodyPost_ret (v := .agg #[.int .i64 i, .int .i64 j, .int .i32 (ofB n true)]) (by simp [results, Try.results52, go_sem]) rfl ⟨rfl, ?_⟩
    exact below_one _ _
  · go_enter Try.func52, Try.ntmps52
    go_wp2_with fail
    refine (H1.out _).mono ?_
    rintro e w' ⟨rfl, rfl⟩
    go_wp2_with fail
    refine (H2.out _).mono ?_
    rintro e w' ⟨rfl, rfl⟩
    go_wp2_with fail
    refine bodyPost_ret (v := .agg #[.int .i64 i, .int .i64 j, .int .i32 (ofB n false)]) (by simp [results, Try.results52, go_sem]) rfl ⟨rfl, ?_⟩
    exact below_one _ _
end Go.Proofs.Ytjanibholjimkaa
