/-
  The contracts of ops: free, limit, has, bounds, limitOf, exactly, settable.
-/
import Derived.Test.YteifpplemohdcaaGreatQ4
import Derived.Test.YteifpplemohdcaaGreatQ22
namespace Go.Proofs.YteifpplemohdcaaGreat
open Go.RowKit
set_option linter.unusedVariables false
set_option maxRecDepth 100000
/-- Of what was there, only block d may have turned. -/
def OnlyB (d : Nat) (w w' : World) : Prop := w.heap.size ≤ w'.heap.size ∧ ∀ k, k < w.heap.size → k ≠ d → w'.heap[k]? = w.heap[k]?
theorem OnlyB.refl (d : Nat) (w : World) : OnlyB d w w := ⟨Nat.le_refl _, fun _ _ _ => rfl⟩
theorem OnlyB.trans {d : Nat} {a b c : World} (h : OnlyB d a b) (k : OnlyB d b c) : OnlyB d a c := ⟨Nat.le_trans h.1 k.1, fun i hi hd => (k.2 i (Nat.lt_of_lt_of_le hi h.1) hd).trans (h.2 i hi hd)⟩
theorem OnlyB.below {d : Nat} {w w' : World} (h : Below w.heap.size w w') : OnlyB d w w' := ⟨h.size, fun k hk _ => h.block k hk⟩
theorem OnlyB.set {d : Nat} {a w : World} (h : OnlyB d a w) {p : Addr} (hp : p.block = d) (v : Value) : OnlyB d a (w.setCell p v) := ⟨by rw [World.size_setCell]; exact h.1, fun k hk hd => by rw [Below.heap_setCell _ _ _ _ (by omega)]; exact h.2 k hk hd⟩
theorem OnlyB.drew {d : Nat} {a w : World} (h : OnlyB d a w) : OnlyB d a w.drew := ⟨h.1, h.2⟩
theorem OnlyB.cell {d : Nat} {w w' : World} (h : OnlyB d w w') {p : Addr} (hp : p.block < w.heap.size) (hd : p.block ≠ d) : w'.cell? p = w.cell? p := World.cell?_of_block (w := w) (h.2 p.block hp hd)
def freeS (x i : Nat) (r : Mat) : Mat := upd (upd r x i 2147483647) i x (upd r x i 2147483647 i 0)
def freeK (x : Nat) : Nat → Mat → Mat
  | 0, r => r
  | K + 1, r => freeS x K (freeK x K r)
theorem freeK_32 {x : Nat} {r : Mat} (h : R32 r) : ∀ K, R32 (freeK x K r)
  | 0 => h
  | K + 1 => by
    have h1 := (freeK_32 (x := x) h K).upd (i := x) (j := K) (v := 2147483647) (by omega) (by omega)
    exact h1.upd (h1 K 0).1 (h1 K 0).2
set_option maxHeartbeats 2000000 in
theorem free_any (b n x : Nat) (r : Mat) (w : World) (h : n ≤ 8) (hx : x ≤ 8) (hD : ODraft w b n r) :
    Calls Tryz.prog 99 #[.pointer (some ⟨b, 0, none⟩), .int .i64 x] w fun e w' => e = .returned (.tuple #[]) ∧ ODraft w' b n (freeK x (n + 1) r) ∧ Below b w w' ∧ OnlyB b w w' := by
  have HD := hideD hD
  have x0 : (0 : Int) ≤ (x : Int) := by omega
  have x9 : (x : Int) < 9 := by omega
  clear hD
  go_enter Tryz.func99, Tryz.ntmps99
  go_wp2_with fail
  go_loopw [4] (fun s wr => ∃ (K : Nat), K ≤ n + 1 ∧ s = .int .i64 (K : Int) ∧ Hid (ODraft wr b n (freeK x K r)) ∧ Hid (Below b w wr) ∧ Hid (OnlyB b w wr)) (fun s _ => n + 1 - (intOf s).toNat)
  case atStart => exact ⟨0, by omega, rfl, HD, Below.refl _ _, OnlyB.refl _ _⟩
  case round =>
    obtain ⟨K, hK, rfl, hD, hB, hO⟩ := hrel
    clear HD
    have q0 := hD.out.clocks
    by_cases ck : K ≤ n
    · have k9 : (K : Int) < 9 := by omega
      have q1 := hD.out.cell x K hx (by omega)
      have q2 := hD.out.free x K hx (by omega)
      have hD2 := hideD (hD.out.set (i := x) (j := K) hx (by omega) 2147483647)
      have hB2 := hideD (hB.out.setCell (p := at9 b x K) (Nat.le_refl _) (.int .i32 2147483647))
      have hO2 := hideD (hO.out.set (p := at9 b x K) rfl (.int .i32 2147483647))
      have nx : Hid (freeK x (K + 1) r = upd (upd (freeK x K r) x K 2147483647) K x (upd (freeK x K r) x K 2147483647 K 0)) := rfl
      generalize freeK x K r = s at *
      clear hD hB hO
      go_upto_region 4 with (fail)
      generalize wr.setCell (at9 b x K) (.int .i32 2147483647) = w2 at *
      clear q0 q1 q2
      have q0 := hD2.out.clocks
      have q1 := hD2.out.cell K x (by omega) hx
      have q2 := hD2.out.free K x (by omega) hx
      have q3 : w2.cell? ⟨b, 1 + K * 9, none⟩ = some (.int .i32 (upd s x K 2147483647 K 0)) := hD2.out.cell K 0 (by omega) (by omega)
      have hD3 := hideD (hD2.out.set (i := K) (j := x) (by omega) hx (upd s x K 2147483647 K 0))
      have hB3 := hideD (hB2.out.setCell (p := at9 b K x) (Nat.le_refl _) (.int .i32 (upd s x K 2147483647 K 0)))
      have hO3 := hideD (hO2.out.set (p := at9 b K x) rfl (.int .i32 (upd s x K 2147483647 K 0)))
      rw [← nx.out] at hD3
      generalize upd s x K 2147483647 K 0 = y at *
      clear hD2 hB2 hO2
      go_big_region
      all_goals
        have hD4 := hideD (hD3.out.drew)
        have hB4 := hideD (hB3.out.drew)
        have hO4 := hideD (hO3.out.drew)
        go_wp2_with fail
        go_roundw
        case rel => exact ⟨K + 1, by omega, by go_num, by first | exact hD4 | exact hD3, by first | exact hB4 | exact hB3, by first | exact hO4 | exact hO3⟩
        case measure => simp [intOf]; omega
    · have eK : K = n + 1 := by omega
      subst eK
      go_wp2_with fail
      go_end0
      exact ⟨rfl, hD.out, hB.out, hO.out⟩
set_option maxHeartbeats 2000000 in
theorem limit_any (b n i j : Nat) (x : Int) (r : Mat) (w : World) (i8 : i ≤ 8) (j8 : j ≤ 8) (hD : ODraft w b n r) :
    Calls Tryz.prog 101 #[.pointer (some ⟨b, 0, none⟩), .agg #[.int .i64 i, .int .i64 j, .int .i32 x]] w fun e w' => e = .returned (.tuple #[]) ∧ ODraft w' b n (upd r i j (min (r i j) x)) ∧ Below b w w' ∧ OnlyB b w w' := by
  have a0 : (0 : Int) ≤ (i : Int) := by omega
  have a1 : (i : Int) < 9 := by omega
  have a2 : (0 : Int) ≤ (j : Int) := by omega
  have a3 : (j : Int) < 9 := by omega
  have B0 := below_one w (.cells #[.int .i64 i, .int .i64 j, .int .i32 x] 95)
  have hD1 := hideD (hD.past B0)
  have c0 : (w.alloc (.cells #[.int .i64 i, .int .i64 j, .int .i32 x] 95)).cell? ⟨w.heap.size, 0, none⟩ = some (.int .i64 i) := by simp [go_sem]
  have c1 : (w.alloc (.cells #[.int .i64 i, .int .i64 j, .int .i32 x] 95)).cell? ⟨w.heap.size, 1, none⟩ = some (.int .i64 j) := by simp [go_sem]
  have c2 : (w.alloc (.cells #[.int .i64 i, .int .i64 j, .int .i32 x] 95)).cell? ⟨w.heap.size, 2, none⟩ = some (.int .i32 x) := by simp [go_sem]
  have hB1 := hideD (B0.mono (Nat.le_of_lt hD.lt))
  have hO1 := hideD (OnlyB.below (d := b) B0)
  clear B0 hD
  go_enter Tryz.func101, Tryz.ntmps101
  go_upto_region 1 with (fail)
  generalize w.alloc (.cells #[.int .i64 i, .int .i64 j, .int .i32 x] 95) = w1 at *
  generalize w.heap.size = bl at *
  go_big_region
  all_goals
    have q1 := hD1.out.cell i j i8 j8
    have q2 := hD1.out.free i j i8 j8
    have hD2 := hideD (fun v => hD1.out.set i8 j8 v)
    have hB2 := hideD (fun v => hB1.out.setCell (p := at9 b i j) (Nat.le_refl _) v)
    have hO2 := hideD (fun v => hO1.out.set (p := at9 b i j) rfl v)
    have MM : Hid (min (r i j) x = if x < r i j then x else r i j) := by show _ = _; split <;> omega
    generalize ey : r i j = y at *
    have EY := hideD ey
    clear ey
    go_wp2_with fail
    go_big_region
  all_goals
    have hD3 := hideD (hD2.out (min y x))
    have hB3 := hideD (hB2.out (.int .i32 (min y x)))
    have hO3 := hideD (hO2.out (.int .i32 (min y x)))
    rw [MM.out] at hD3 hB3 hO3
    have MM' := MM.out
    generalize (if x < y then x else y) = z at *
    have MM := hideD MM'
    clear MM'
    have hD4 := hideD (hD3.out.drew)
    have hB4 := hideD (hB3.out.drew)
    have hD5 := hideD (hD4.out.drew)
    have hB5 := hideD (hB4.out.drew)
    have hO4 := hideD (hO3.out.drew)
    have hO5 := hideD (hO4.out.drew)
    go_wp2_with fail
    go_end0
    exact ⟨rfl, by rw [EY.out, MM.out]; first | exact hD3.out | exact hD4.out | exact hD5.out, by first | exact hB3.out | exact hB4.out | exact hB5.out | (rw [MM.out]; exact hB5.out), by first | exact hO3.out | exact hO4.out | exact hO5.out | (rw [MM.out]; exact hO5.out)⟩
end Go.Proofs.YteifpplemohdcaaGreat

/-
  The contracts of ops: has, exactly, settable.
-/
namespace Go.Proofs.YteifpplemohdcaaGreat
open Go.RowKit
set_option linter.unusedVariables false
set_option maxRecDepth 100000
/-- A slice of whole numbers reads so. -/
def IntsAt (w : World) (v : Value) (l : List Int) : Prop := (∃ ad c, v = .slice ad 0 c ∧ l = []) ∨ (∃ b off cap, v = .slice (some ⟨b, off, none⟩) l.length cap ∧ ∀ j, j < l.length → w.cell? ⟨b, off + j, none⟩ = some (.int .i64 (l.getD j 0)))
theorem IntsAt.past {w w' : World} {v : Value} {l : List Int} (h : IntsAt w v l) (hb : Below w.heap.size w w') : IntsAt w' v l := by
  rcases h with h | ⟨b, off, cap, rfl, hc⟩
  · exact .inl h
  · refine .inr ⟨b, off, cap, rfl, fun j hj => ?_⟩
    exact kc _ _ hb (hc j hj)
def clockB (n : Nat) (x : Int) : Bool := decide (1 ≤ x ∧ x ≤ n)
def hasA (n : Nat) (l : List Int) : Nat → Bool
  | 0 => true
  | k + 1 => hasA n l k && clockB n (l.getD k 0)
theorem hasA_false {n : Nat} {l : List Int} : ∀ {k : Nat} (m : Nat), k ≤ m → hasA n l k = false → hasA n l m = false := by
  intro k m h e
  induction m with
  | zero => obtain rfl : k = 0 := by omega
            exact e
  | succ m ih =>
    by_cases q : k = m + 1
    · subst q; exact e
    · simp [hasA, ih (by omega)]
theorem hasA_at {n : Nat} {l : List Int} {m : Nat} (h : hasA n l m = true) (k : Nat) (hk : k < m) : 1 ≤ l.getD k 0 ∧ l.getD k 0 ≤ n := by
  induction m with
  | zero => omega
  | succ m ih =>
    simp only [hasA, Bool.and_eq_true] at h
    by_cases q : k = m
    · subst q
      simpa [clockB] using h.2
    · exact ih h.1 (by omega)
set_option maxHeartbeats 1000000 in
theorem ohas_main (n b off cap q : Nat) (l : List Int) (w : World) (hn : n ≤ 8) (hq : l.length = q) (hby : q ≤ 9223372036854775807) (hc : ∀ j, j < q → w.cell? ⟨b, off + j, none⟩ = some (.int .i64 (l.getD j 0))) :
    Calls Tryz.prog 144 #[.agg #[.int .i64 n], .slice (some ⟨b, off, none⟩) q cap] w fun e w' => e = .returned (.bool (hasA n l q)) ∧ Below w.heap.size w w' := by
  have HC : Hid (∀ w', Below w.heap.size w w' → ∀ j, j < q → w'.cell? ⟨b, off + j, none⟩ = some (.int .i64 (l.getD j 0))) := fun w' hb j hj => kc _ _ hb (hc j hj)
  have B0 := hideD (below_one w (.cells #[.int .i64 n] 132))
  clear hc hq
  go_enter Tryz.func144, Tryz.ntmps144
  go_wp2_with fail
  have c0 : (w.alloc (.cells #[.int .i64 n] 132)).cell? ⟨w.heap.size, 0, none⟩ = some (.int .i64 n) := by simp [go_sem]
  generalize w.alloc (.cells #[.int .i64 n] 132) = w1 at *
  go_loopw [9] (fun s wr => ∃ (K : Nat), K ≤ q ∧ s = .int .i64 (K : Int) ∧ Hid (hasA n l K = true) ∧ wr = w1) (fun s _ => q - (intOf s).toNat)
  case atStart => exact ⟨0, by omega, rfl, rfl, rfl⟩
  case round =>
    obtain ⟨K, hK, rfl, hA, rfl⟩ := hrel
    by_cases ck : K < q
    · have k0 : (0 : Int) ≤ (K : Int) := by omega
      have k1 : (K : Int) < (q : Int) := by omega
      have c1 := HC.out _ B0.out K ck
      have st : Hid (hasA n l (K + 1) = clockB n (l.getD K 0)) := by show _ = _; simp [hasA, hA.out]
      generalize l.getD K 0 = x at *
      by_cases x1 : x < 1
      · have st3 : Hid (hasA n l q = false) := hasA_false (k := K + 1) q (by omega) (by rw [st.out]; simp [clockB]; omega)
        clear st
        go_wp2_with fail
        go_ret
        exact ⟨by rw [st3.out]; rfl, B0.out⟩
      · by_cases x2 : (n : Int) < x
        · have st3 : Hid (hasA n l q = false) := hasA_false (k := K + 1) q (by omega) (by rw [st.out]; simp [clockB]; omega)
          clear st
          go_wp2_with fail
          go_ret
          exact ⟨by rw [st3.out]; rfl, B0.out⟩
        · have st3 : Hid (hasA n l (K + 1) = true) := by show _ = _; rw [st.out]; simp [clockB]; omega
          clear st
          go_wp2_with fail
          go_roundw
          case rel => exact ⟨K + 1, by omega, by go_num, st3, by trivial⟩
          case measure => simp [intOf]; omega
    · have eK : K = q := by omega
      subst eK
      go_wp2_with fail
      go_ret
      exact ⟨by rw [hA.out]; rfl, B0.out⟩
theorem ohas_none (n c : Nat) (ad : Option Addr) (w : World) :
    Calls Tryz.prog 144 #[.agg #[.int .i64 n], .slice ad 0 c] w fun e w' => e = .returned (.bool true) ∧ Below w.heap.size w w' := by
  have B0 := hideD (below_one w (.cells #[.int .i64 n] 132))
  go_enter Tryz.func144, Tryz.ntmps144
  go_wp2_with fail
  generalize w.alloc (.cells #[.int .i64 n] 132) = w1 at *
  go_loopw [9] (fun s wr => s = .int .i64 0 ∧ wr = w1) (fun s _ => 1)
  case atStart => exact ⟨rfl, rfl⟩
  case round =>
    obtain ⟨rfl, rfl⟩ := hrel
    go_wp2_with fail
    go_ret
    exact ⟨rfl, B0.out⟩
theorem ohas_any (n : Nat) (v : Value) (l : List Int) (w : World) (hn : n ≤ 8) (hby : l.length ≤ 9223372036854775807) (hv : IntsAt w v l) :
    Calls Tryz.prog 144 #[.agg #[.int .i64 n], v] w fun e w' => e = .returned (.bool (hasA n l l.length)) ∧ Below w.heap.size w w' := by
  rcases hv with ⟨ad, c, rfl, rfl⟩ | ⟨b, off, cap, rfl, hc⟩
  · exact ohas_none n c ad w
  · exact ohas_main n b off cap l.length l w hn rfl hby hc
theorem exactly_any (x n : Int) (w : World) (n0 : 0 ≤ n) (n1 : n ≤ 1048576) :
    Calls Tryz.prog 100 #[.int .i64 x, .int .i64 n] w fun e w' => (∃ g, e = .returned (.slice (some ⟨g, 0, none⟩) 2 2) ∧ w.heap.size ≤ g ∧ w'.cell? ⟨g, 0, none⟩ = some (.int .i64 x) ∧ w'.cell? ⟨g, 1, none⟩ = some (.int .i64 0) ∧ w'.cell? ⟨g, 2, none⟩ = some (.int .i32 (2 * n + 1)) ∧ w'.cell? ⟨g, 3, none⟩ = some (.int .i64 0) ∧ w'.cell? ⟨g, 4, none⟩ = some (.int .i64 x) ∧ w'.cell? ⟨g, 5, none⟩ = some (.int .i32 (-(2 * n) + 1))) ∧ Below w.heap.size w w' := by
  have H1 : Hid (∀ w, Calls Tryz.prog 114 #[.int .i64 x, .int .i64 0, .int .i64 n, .bool false] w fun e w' => e = .returned (.agg #[.int .i64 x, .int .i64 0, .int .i32 (2 * n + 1)]) ∧ Below w.heap.size w w') := fun w => by
    have := limitOf_any x 0 n false w
    rwa [show ofB n (!false) = 2 * n + 1 from by simp [ofB]; omega] at this
  have H2 : Hid (∀ w, Calls Tryz.prog 114 #[.int .i64 0, .int .i64 x, .int .i64 (-n), .bool false] w fun e w' => e = .returned (.agg #[.int .i64 0, .int .i64 x, .int .i32 (-(2 * n) + 1)]) ∧ Below w.heap.size w w') := fun w => by
    have := limitOf_any 0 x (-n) false w
    rwa [show ofB (-n) (!false) = -(2 * n) + 1 from by simp [ofB]; omega] at this
  have ng : wrap64 (-n) = -n := by unfold wrap64; omega
  have ng2 : IntKind.i64.wrap (-n) = -n := by rw [IntKind.wrap_i64]; omega
  go_enter Tryz.func100, Tryz.ntmps100
  go_wp2_with fail
  refine (H1.out _).mono ?_
  rintro e w1 ⟨rfl, hb1⟩
  go_wp2_with fail
  refine (H2.out _).mono ?_
  rintro e w2 ⟨rfl, hb2⟩
  have B2 := hideD (beyondD hb1 hb2)
  clear hb1 hb2 ng ng2
  go_wp2_with fail
  refine bodyPost_ret (v := .slice (some ⟨w2.heap.size, 0, none⟩) 2 2) (by simp [results, Tryz.results100, go_sem]) rfl ⟨⟨w2.heap.size, rfl, B2.out.size, ?_, ?_, ?_, ?_, ?_, ?_⟩, B2.out.alloc B2.out.size _⟩
  all_goals simp [go_sem]
def setE (n : Nat) (x k : Int) : Int := if clockB n x then (if 0 ≤ k ∧ k ≤ 1048576 then 0 else 13) else 12
theorem settable_any (b n : Nat) (c : Row) (x k : Int) (w : World) (hn : n ≤ 8) (hz : ZoneAt w b n c) :
    Calls Tryz.prog 98 #[.pointer (some ⟨b, 0, none⟩), .int .i64 x, .int .i64 k] w fun e w' => e = .returned (.int .i64 (setE n x k)) ∧ Below w.heap.size w w' := by
  have HD := hideD (dimZ_any b n w hz.clocks)
  have B1 := hideD (below_one w (.cells #[.int .i64 x] 3))
  have HH : Hid (Calls Tryz.prog 144 #[.agg #[.int .i64 n], .slice (some ⟨w.heap.size, 0, none⟩) 1 1] (w.alloc (.cells #[.int .i64 x] 3)) fun e w' => e = .returned (.bool (clockB n x)) ∧ Below (w.alloc (.cells #[.int .i64 x] 3)).heap.size (w.alloc (.cells #[.int .i64 x] 3)) w') := by
    have := ohas_main n w.heap.size 0 1 1 [x] (w.alloc (.cells #[.int .i64 x] 3)) hn rfl (by omega) (fun j hj => by
      obtain rfl : j = 0 := by omega
      simp [go_sem])
    rw [show hasA n [x] 1 = clockB n x from by simp [hasA]] at this
    exact this
  clear hz
  have fin : ∀ w', Below (w.alloc (.cells #[.int .i64 x] 3)).heap.size (w.alloc (.cells #[.int .i64 x] 3)) w' → Below w.heap.size w w' := fun w' hb => beyondD B1.out hb
  have FIN := hideD fin
  clear fin B1
  go_enter Tryz.func98, Tryz.ntmps98
  go_wp2_with fail
  refine HD.out.mono ?_
  rintro e w1 ⟨rfl, rfl⟩
  go_wp2_with fail
  refine HH.out.mono ?_
  rintro e w2 ⟨rfl, hb⟩
  have B2 := hideD (FIN.out _ hb)
  clear hb FIN HH HD
  cases cb : clockB n x with
  | false =>
    go_wp2_with fail
    go_ret
    exact ⟨by simp [setE, cb], B2.out⟩
  | true =>
    by_cases k0 : k < 0
    · go_wp2_with fail
      go_ret
      exact ⟨by rw [setE, cb, if_pos rfl, if_neg (by omega)]; rfl, B2.out⟩
    · by_cases k1 : 1048576 < k
      · go_wp2_with fail
        go_ret
        exact ⟨by rw [setE, cb, if_pos rfl, if_neg (by omega)]; rfl, B2.out⟩
      · go_wp2_with fail
        go_ret
        exact ⟨by rw [setE, cb, if_pos rfl, if_pos (by omega)]; rfl, B2.out⟩
end Go.Proofs.YteifpplemohdcaaGreat

/-
  The contracts of ops: Reset, Free.
-/
namespace Go.Proofs.YteifpplemohdcaaGreat
open Go.RowKit
set_option linter.unusedVariables false
set_option maxRecDepth 100000
theorem reset_err (v : Value) (x k e : Int) (w : World) (he : (e != 0) = true) (HS : Hid (Calls Tryz.prog 98 #[v, .int .i64 x, .int .i64 k] w fun z w' => z = .returned (.int .i64 e) ∧ Below w.heap.size w w')) :
    Calls Tryz.prog 30 #[v, .int .i64 x, .int .i64 k] w fun z w' => z = errOf e ∧ Below w.heap.size w w' := by
  go_enter Tryz.func30, Tryz.ntmps30
  go_wp2_with fail
  refine HS.out.mono ?_
  rintro z w1 ⟨rfl, hb⟩
  go_wp2_with fail
  exact bodyPost_ret (v := .tuple #[.pointer none, .int .i64 e]) (by simp [results, Tryz.results30, go_sem]) rfl ⟨rfl, hb⟩
def limM (r : Mat) (i j : Nat) (v : Int) : Mat := upd r i j (min (r i j) v)
theorem limM_32 {r : Mat} (h : R32 r) {i j : Nat} {v : Int} (h0 : -2147483648 ≤ v) : R32 (limM r i j v) := h.upd (by have := (h i j).1; omega) (by have := (h i j).2; omega)
def rstM (n x : Nat) (k : Int) (r : Mat) : Nat → Mat
  | 0 => freeK x (n + 1) r
  | 1 => limM (freeK x (n + 1) r) x 0 (2 * k + 1)
  | _ => limM (limM (freeK x (n + 1) r) x 0 (2 * k + 1)) 0 x (-(2 * k) + 1)
set_option maxHeartbeats 2000000 in
theorem reset_any (b n x : Nat) (k : Int) (c : Row) (w : World) (h : n ≤ 8) (hz : ZoneAt w b n c) (hc : C32 c) (hx : x ≤ n) (hs : setE n x k = 0) (k0 : 0 ≤ k) (k1 : k ≤ 1048576) :
    Calls Tryz.prog 30 #[.pointer (some ⟨b, 0, none⟩), .int .i64 x, .int .i64 k] w fun e w' => OpsOut w' w.heap.size n e (rstM n x k (oR n c ((n + 1) * (n + 1))) 2) ∧ Below w.heap.size w w' := by
  have HS := settable_any b n c x k w h hz
  rw [hs] at HS
  have HS := hideD HS
  have HD : Hid (∀ w', Below w.heap.size w w' → _) := fun w' hb => odraft_any b n c w' h (hz.past hb)
  have H32 := hideD (oR_32 (n := n) (K := (n + 1) * (n + 1)) hc)
  have HF : Hid (∀ d r w, ODraft w d n r → _) := fun d r w hD => free_any d n x r w h (by omega) hD
  have HE : Hid (∀ w, _) := fun w => exactly_any x k w k0 k1
  have HL1 : Hid (∀ d r w, ODraft w d n r → _) := fun d r w hD => limit_any d n x 0 (2 * k + 1) r w (by omega) (by omega) hD
  have HL2 : Hid (∀ d r w, ODraft w d n r → _) := fun d r w hD => limit_any d n 0 x (-(2 * k) + 1) r w (by omega) (by omega) hD
  generalize oR n c ((n + 1) * (n + 1)) = r at *
  clear hz hc
  go_enter Tryz.func30, Tryz.ntmps30
  go_wp2_with fail
  refine HS.out.mono ?_
  rintro z w1 ⟨rfl, hb⟩
  have HD1 := hideD (HD.out _ hb)
  have hB1 := hideD hb
  clear hb HD HS
  go_wp2_with fail
  refine HD1.out.mono ?_
  rintro e w2 ⟨⟨d, rfl, hd, hD⟩, hb⟩
  have hd' : w.heap.size ≤ d := Nat.le_trans hB1.out.size hd
  have HF1 := hideD (HF.out d _ _ hD)
  have hB2 := hideD (beyondD hB1.out hb)
  clear hb hD HD1 HF hB1 hd
  go_wp2_with fail
  refine HF1.out.mono ?_
  rintro e w3 ⟨rfl, hD, hb, -⟩
  have hD3 := hideD hD
  have hB3 := hideD (hB2.out.trans (hb.mono hd'))
  clear hb hD HF1 hB2
  go_wp2_with fail
  refine (HE.out _).mono ?_
  rintro e w4 ⟨⟨g, rfl, hg, g0, g1, g2, g3, g4, g5⟩, hb⟩
  have hD4 := hideD (hD3.out.past hb)
  have hB4 := hideD (beyondD hB3.out hb)
  have hg' : Hid (d < g) := by have := hD3.out.lt; show _ < _; omega
  have gl : Hid (g < w4.heap.size) := World.block_lt_of_cell? _ _ g0
  clear hb hD3 hB3 HE hg
  have e0 : ((x : Int) = (x : Int)) := rfl
  generalize hy : 2 * k + 1 = y at *
  generalize hu : -(2 * k) + 1 = u at *
  have HY := hideD hy
  have HU := hideD hu
  clear hy hu e0
  go_wp2_with fail
  go_loopw [28] (fun s wr => ∃ (K : Nat), K ≤ 2 ∧ s = .int .i64 (K : Int) ∧ Hid (ODraft wr d n (rstM n x k r K)) ∧ Hid (Below w.heap.size w wr) ∧ Hid (∀ p, p.block = g → wr.cell? p = w4.cell? p)) (fun s _ => 2 - (intOf s).toNat)
  case atStart => exact ⟨0, by omega, rfl, hD4, hB4, fun p hp => rfl⟩
  case round =>
    obtain ⟨K, hK, rfl, hD, hB, hG⟩ := hrel
    clear hD4 hB4
    have f0 := (hG.out ⟨g, 0, none⟩ rfl).trans g0
    have f1 := (hG.out ⟨g, 1, none⟩ rfl).trans g1
    have f2 := (hG.out ⟨g, 2, none⟩ rfl).trans g2
    have f3 := (hG.out ⟨g, 3, none⟩ rfl).trans g3
    have f4 := (hG.out ⟨g, 4, none⟩ rfl).trans g4
    have f5 := (hG.out ⟨g, 5, none⟩ rfl).trans g5
    obtain rfl | rfl | rfl : K = 0 ∨ K = 1 ∨ K = 2 := by omega
    · have B5 := below_one wr (.cells #[.int .i64 x, .int .i64 0, .int .i32 y] 95)
      have HL := hideD (HL1.out d _ _ (hD.out.past B5))
      have hB5 := hideD (beyondD hB.out B5)
      have O5 := hideD (OnlyB.below (d := d) B5)
      clear B5
      go_wp2_with fail
      refine HL.out.mono ?_
      rintro e w5 ⟨rfl, hD5, hb, ho⟩
      have hD6 := hideD hD5
      have hB6 := hideD (hB5.out.trans (hb.mono hd'))
      have hG6 : Hid (∀ p, p.block = g → w5.cell? p = w4.cell? p) := fun p hp => ((O5.out.trans ho).cell (by have := hG.out; have q := World.block_lt_of_cell? _ _ f0; rw [hp]; exact q) (by have := hg'.out; omega)).trans (hG.out p hp)
      clear hD5 hb ho HL hB5 O5 hD hB hG
      go_wp2_with fail
      go_roundw
      case rel => exact ⟨1, by omega, rfl, by rw [← HY.out] at hD6; exact hD6, hB6, hG6⟩
      case measure => simp [intOf]
    · have B5 := below_one wr (.cells #[.int .i64 0, .int .i64 x, .int .i32 u] 95)
      have HL := hideD (HL2.out d _ _ (hD.out.past B5))
      have hB5 := hideD (beyondD hB.out B5)
      have O5 := hideD (OnlyB.below (d := d) B5)
      clear B5
      go_wp2_with fail
      refine HL.out.mono ?_
      rintro e w5 ⟨rfl, hD5, hb, ho⟩
      have hD6 := hideD hD5
      have hB6 := hideD (hB5.out.trans (hb.mono hd'))
      have hG6 : Hid (∀ p, p.block = g → w5.cell? p = w4.cell? p) := fun p hp => ((O5.out.trans ho).cell (by have q := World.block_lt_of_cell? _ _ f0; rw [hp]; exact q) (by have := hg'.out; omega)).trans (hG.out p hp)
      clear hD5 hb ho HL hB5 O5 hD hB hG
      go_wp2_with fail
      go_roundw
      case rel => exact ⟨2, by omega, rfl, by rw [← HU.out] at hD6; exact hD6, hB6, hG6⟩
      case measure => simp [intOf]
    · have HZ := hideD (ozone_out d n w.heap.size _ wr h hD.out (limM_32 (limM_32 (freeK_32 H32.out _) (by omega)) (by omega)) hB.out.size)
      go_wp2_with fail
      refine HZ.out.mono ?_
      rintro e w2 ⟨p, kk, rfl, ho, hb⟩
      go_wp2_with fail
      exact bodyPost_ret (v := .tuple #[.pointer p, .int .i64 kk]) (by simp [results, Tryz.results30, go_sem]) rfl ⟨ho.out, beyondD hB.out hb.out⟩
end Go.Proofs.YteifpplemohdcaaGreat
