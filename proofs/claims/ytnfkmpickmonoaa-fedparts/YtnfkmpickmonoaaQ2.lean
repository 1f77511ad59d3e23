/-
  A zone in memory; the contracts of none, used, at, hollow, zone.
-/
import Derived.Test.YtnfkmpickmonoaaQ1
namespace Go.Proofs.Ytnfkmpickmonoaa
open Go.RowKit
set_option linter.unusedVariables false
abbrev Row := Nat → Int
/-- In block b there lies a zone of n clocks with these cells (the places behind the used ones hold 0). -/
structure ZoneAt (w : World) (b n : Nat) (c : Row) : Prop where
  clocks : w.cell? ⟨b, 0, none⟩ = some (.int .i64 n)
  cell : ∀ k, k < 81 → w.cell? ⟨b, 1 + k, none⟩ = some (.int .i32 (c k))
  free : ∀ k, k < 81 → w.frozen? ⟨b, 1 + k, none⟩ = false
def updR (c : Row) (k : Nat) (v : Int) : Row := fun a => if a = k then v else c a
theorem ZoneAt.set {w : World} {b n : Nat} {c : Row} (h : ZoneAt w b n c) {k : Nat} (hk : k < 81) (v : Int) : ZoneAt (w.setCell ⟨b, 1 + k, none⟩ (.int .i32 v)) b n (updR c k v) := by
  refine ⟨?_, ?_, ?_⟩
  · rw [World.cell?_setCell_other _ _ _ _ (by intro e; injection e; omega)]
    exact h.clocks
  · intro a ha
    by_cases e : a = k
    · subst e
      rw [World.cell?_setCell_same _ _ _ (h.cell a ha)]
      simp [updR]
    · rw [World.cell?_setCell_other _ _ _ _ (by intro e; injection e; omega), h.cell a ha]
      simp [updR, e]
  · intro a ha
    rw [World.frozen?_setCell]
    exact h.free a ha
theorem ZoneAt.drewN {w : World} {b n : Nat} {c : Row} (h : ZoneAt w b n c) (k : Nat) : ZoneAt (w.drewN k) b n c := ⟨h.clocks, h.cell, h.free⟩
theorem ZoneAt.lt {w : World} {b n : Nat} {c : Row} (h : ZoneAt w b n c) : b < w.heap.size := World.block_lt_of_cell? _ _ h.clocks
theorem ZoneAt.later {w w' : World} {b n : Nat} {c : Row} (h : ZoneAt w b n c) {B : Nat} (hb : Below B w w') (hB : b < B) : ZoneAt w' b n c :=
  ⟨(hb.cell hB).trans h.clocks, fun k hk => (hb.cell (p := ⟨b, 1 + k, none⟩) hB).trans (h.cell k hk), fun k hk => (hb.frozen (p := ⟨b, 1 + k, none⟩) hB).trans (h.free k hk)⟩
theorem ZoneAt.past {w w' : World} {b n : Nat} {c : Row} (h : ZoneAt w b n c) (hb : Below w.heap.size w w') : ZoneAt w' b n c := h.later hb h.lt

def y82 : Array Value := #[.int .i64 0] ++ Array.replicate 81 (.int .i32 0)
theorem zeroM (w : World) : Sem.run Try.prog (zeroValue 103) w = .ok (.agg y82) w := by kernel_rfl
theorem zeroZ (w : World) : Sem.run Try.prog (zeroValue 105) w = .ok (.agg y82) w := by kernel_rfl
theorem y82_ne : (y82 = #[]) = False := by simp [y82]
theorem y82_size : y82.size = 82 := by simp [y82]
theorem new_zone (w : World) (n : Nat) (T : TypeId) : ZoneAt (w.alloc (.cells (y82.setIfInBounds 0 (.int .i64 n)) T)) w.heap.size n (fun _ => 0) := by
  refine ⟨?_, ?_, ?_⟩
  · rw [World.cell?_alloc_at _ _ _ _ rfl]
    simp [y82]
  · intro k hk
    rw [World.cell?_alloc_at _ _ _ _ rfl, Array.getElem?_setIfInBounds_ne (by omega)]
    rw [y82, Array.getElem?_append_right (by simp), Array.getElem?_replicate]
    simp
    omega
  · intro k hk
    rw [World.frozen?_alloc_at _ _ _ _ rfl]
theorem build82 (v : Value) : Array.foldl (fun cs x => cs.setIfInBounds x.snd x.fst) y82 (y82.setIfInBounds 0 v).zipIdx 0 82 = y82.setIfInBounds 0 v := by kernel_rfl
theorem none_any (n : Nat) (w : World) :
    Calls Try.prog 68 #[.int .i64 n] w fun e w' => e = .returned (.pointer (some ⟨w.heap.size, 0, none⟩)) ∧ ZoneAt w' w.heap.size n (fun _ => 0) ∧ Below w.heap.size w w' ∧ w'.heap.size = w.heap.size + 1 := by
  have Z1 := fun w => zeroM w
  have Z2 := fun w => zeroZ w
  have Zn := y82_ne
  have Zs := y82_size
  go_enter Try.func68, Try.ntmps68
  go_wp2
  go_ret
  rw [build82]
  exact ⟨rfl, new_zone w n _, below_one _ _, by simp⟩
end Go.Proofs.Ytnfkmpickmonoaa

/-
  The contracts of used, at, hollow, nowhereLess, zone.
-/
namespace Go.Proofs.Ytnfkmpickmonoaa
open Go.RowKit
set_option linter.unusedVariables false
set_option maxRecDepth 100000
theorem used_raw (b : Nat) (n s : Int) (q : Nat) (w : World) (hc : w.cell? ⟨b, 0, none⟩ = some (.int .i64 n)) (e : IntKind.i64.wrap (s * s) = (q : Int)) (q1 : q ≤ 81)
    (HS : Hid (∀ w, Calls Try.prog 30 #[.agg #[.int .i64 n]] w fun e w' => e = .returned (.int .i64 s) ∧ Below w.heap.size w w')) :
    Calls Try.prog 69 #[.pointer (some ⟨b, 0, none⟩)] w fun e w' => e = .returned (.slice (some ⟨b, 1, none⟩) q 81) ∧ Below w.heap.size w w' := by
  have AL : Try.prog.arrayLen 101 = 81 := by kernel_rfl
  have q2 : (0 : Int) ≤ (q : Int) := by omega
  have q3 : (q : Int) ≤ 81 := by omega
  go_enter Try.func69, Try.ntmps69
  go_wp2_with fail
  go_region_held3 (fun w' => Below w.heap.size w w' ∧ w'.cell? ⟨b, 0, none⟩ = some (.int .i64 n))
    (first | exact ⟨by first | assumption | exact Below.refl _ _ | exact Below.drew (Below.refl _ _), by first | assumption | simp [go_sem, *]⟩ | go_keep)
    (first | (go_at_call 30; refine (HS.out _).mono ?_; rintro e' w' ⟨rfl, hb⟩; have s0 := kc ⟨b, 0, none⟩ (.int .i64 n) hb (by first | assumption | simp [go_sem, *]); have s1 := beyondD (w := w) (by first | assumption | exact Below.refl _ _ | exact Below.drew (Below.refl _ _)) hb))
  all_goals
    go_wp2
    go_ret
    exact ⟨rfl, by assumption⟩
theorem used_any (b n : Nat) (w : World) (h : n ≤ 8) (hc : w.cell? ⟨b, 0, none⟩ = some (.int .i64 n)) :
    Calls Try.prog 69 #[.pointer (some ⟨b, 0, none⟩)] w fun e w' => e = .returned (.slice (some ⟨b, 1, none⟩) ((n + 1) * (n + 1)) 81) ∧ Below w.heap.size w w' := by
  have q : (n + 1) * (n + 1) ≤ 81 := Nat.mul_le_mul (show n + 1 ≤ 9 by omega) (show n + 1 ≤ 9 by omega)
  refine used_raw b n ((n + 1 : Nat) : Int) _ w hc ?_ q (fun w => side_any n w h)
  rw [← Int.natCast_mul]
  generalize (n + 1) * (n + 1) = z at *
  rw [IntKind.wrap_i64]
  omega
theorem at_raw (b k : Nat) (n s i j v : Int) (w : World) (hc : w.cell? ⟨b, 0, none⟩ = some (.int .i64 n)) (hv : w.cell? ⟨b, 1 + k, none⟩ = some (.int .i32 v)) (hk : k < 81)
    (e : IntKind.i64.wrap (IntKind.i64.wrap (i * s) + j) = (k : Int))
    (HS : Hid (∀ w, Calls Try.prog 30 #[.agg #[.int .i64 n]] w fun e w' => e = .returned (.int .i64 s) ∧ Below w.heap.size w w')) :
    Calls Try.prog 92 #[.pointer (some ⟨b, 0, none⟩), .int .i64 i, .int .i64 j] w fun e w' => e = .returned (.int .i32 v) ∧ Below w.heap.size w w' := by
  have k0 : (0 : Int) ≤ (k : Int) := by omega
  have k1 : (k : Int) < 81 := by omega
  go_enter Try.func92, Try.ntmps92
  go_wp2_with fail
  go_region_held3 (fun w' => Below w.heap.size w w' ∧ w'.cell? ⟨b, 0, none⟩ = some (.int .i64 n) ∧ w'.cell? ⟨b, 1 + k, none⟩ = some (.int .i32 v))
    (first | exact ⟨by first | assumption | exact Below.refl _ _ | exact Below.drew (Below.refl _ _), by first | assumption | simp [go_sem, *], by first | assumption | simp [go_sem, *]⟩ | go_keep)
    (first | (go_at_call 30; refine (HS.out _).mono ?_; rintro e' w' ⟨rfl, hb⟩; have s0 := kc ⟨b, 0, none⟩ (.int .i64 n) hb (by first | assumption | simp [go_sem, *]); have s2 := kc ⟨b, 1 + k, none⟩ (.int .i32 v) hb (by first | assumption | simp [go_sem, *]); have s1 := beyondD (w := w) (by first | assumption | exact Below.refl _ _ | exact Below.drew (Below.refl _ _)) hb))
  all_goals
    go_wp2
    go_ret
    exact ⟨rfl, by assumption⟩
theorem at_any (b n i j : Nat) (c : Row) (w : World) (h : n ≤ 8) (hi : i ≤ n) (hj : j ≤ n) (hz : ZoneAt w b n c) :
    Calls Try.prog 92 #[.pointer (some ⟨b, 0, none⟩), .int .i64 i, .int .i64 j] w fun e w' => e = .returned (.int .i32 (c (i * (n + 1) + j))) ∧ Below w.heap.size w w' := by
  have hk : i * (n + 1) + j < 81 := by
    have : i * (n + 1) ≤ 8 * 9 := Nat.mul_le_mul (by omega) (by omega)
    omega
  refine at_raw b (i * (n + 1) + j) n ((n + 1 : Nat) : Int) i j _ w hz.clocks (hz.cell _ hk) hk ?_ (fun w => side_any n w h)
  rw [← Int.natCast_mul]
  generalize i * (n + 1) = z at *
  rw [IntKind.wrap_i64, IntKind.wrap_i64]
  omega
theorem hollow_raw (b : Nat) (v : Int) (w : World) (H : Hid (∀ w', Below w.heap.size w w' → Calls Try.prog 92 #[.pointer (some ⟨b, 0, none⟩), .int .i64 0, .int .i64 0] w' fun e w'' => e = .returned (.int .i32 v) ∧ Below w'.heap.size w' w'')) :
    Calls Try.prog 64 #[.pointer (some ⟨b, 0, none⟩)] w fun e w' => e = .returned (.bool (decide (v < 1))) ∧ Below w.heap.size w w' := by
  go_enter Try.func64, Try.ntmps64
  go_wp2_with fail
  refine (H.out _ (Below.refl _ _)).mono ?_
  rintro e w' ⟨rfl, hb⟩
  go_wp2
  go_ret
  exact ⟨rfl, hb⟩
theorem hollow_any (b n : Nat) (c : Row) (w : World) (h : n ≤ 8) (hz : ZoneAt w b n c) :
    Calls Try.prog 64 #[.pointer (some ⟨b, 0, none⟩)] w fun e w' => e = .returned (.bool (decide (c 0 < 1))) ∧ Below w.heap.size w w' := by
  refine hollow_raw b (c 0) w fun w' hb => ?_
  have := at_any b n 0 0 c w' h (by omega) (by omega) (hz.past hb)
  simpa using this
/-! ### nowhereLess -/
def nless (c d : Row) : Nat → Bool
  | 0 => true
  | k + 1 => nless c d k && decide (d k ≤ c k)
theorem nless_false {c d : Row} : ∀ {k : Nat} (m : Nat), k ≤ m → nless c d k = false → nless c d m = false := by
  intro k m h e
  induction m with
  | zero => obtain rfl : k = 0 := by omega
            exact e
  | succ m ih =>
    by_cases q : k = m + 1
    · subst q; exact e
    · simp [nless, ih (by omega)]
set_option maxHeartbeats 1000000 in
theorem nless_any (b o n : Nat) (c d : Row) (w : World) (h : n ≤ 8) (hz : ZoneAt w b n c) (hy : ZoneAt w o n d) :
    Calls Try.prog 65 #[.pointer (some ⟨b, 0, none⟩), .pointer (some ⟨o, 0, none⟩)] w fun e w' => e = .returned (.bool (nless c d ((n + 1) * (n + 1)))) ∧ Below w.heap.size w w' := by
  have HU := hideD (used_any b n w h hz.clocks)
  have hm : (n + 1) * (n + 1) ≤ 81 := Nat.mul_le_mul (show n + 1 ≤ 9 by omega) (show n + 1 ≤ 9 by omega)
  generalize (n + 1) * (n + 1) = m at *
  have hm1 : (m : Int) ≤ 81 := by omega
  have HZ := hideD hz
  have HY := hideD hy
  clear hz hy
  go_enter Try.func65, Try.ntmps65
  go_wp2_with fail
  refine HU.out.mono ?_
  rintro e w1 ⟨rfl, hb⟩
  have hZ := hideD (HZ.out.past hb)
  have hY := hideD (HY.out.past hb)
  have hB := hideD hb
  clear HZ HY hb HU
  go_wp2_with fail
  go_loopw [10] (fun s wr => ∃ (I : Nat), I ≤ m ∧ s = .int .i64 I ∧ Hid (nless c d I = true) ∧ Hid (ZoneAt wr b n c) ∧ Hid (ZoneAt wr o n d) ∧ Hid (Below w.heap.size w wr)) (fun s _ => m - (intOf s).toNat)
  case atStart => exact ⟨0, by omega, rfl, rfl, hZ, hY, hB⟩
  case round =>
    obtain ⟨I, hI, rfl, hq, hZ, hY, hB⟩ := hrel
    by_cases ci : I < m
    · have h1 := hZ.out.cell I (by omega)
      have h2 := hY.out.cell I (by omega)
      have st : Hid (nless c d (I + 1) = decide (d I ≤ c I)) := by show nless c d (I + 1) = _; simp [nless, hq.out]
      have i0 : (0 : Int) ≤ (I : Int) := by omega
      have i1 : (I : Int) < 81 := by omega
      generalize c I = x at *
      generalize d I = y at *
      by_cases cx : x < y
      · have st3 : Hid (nless c d m = false) := by
          show nless c d m = false
          refine nless_false (k := I + 1) m (by omega) ?_
          rw [st.out, decide_eq_false (by omega)]
        clear st hq
        go_wp2_with fail
        go_ret
        exact ⟨by rw [st3.out]; rfl, hB.out⟩
      · have st3 : Hid (nless c d (I + 1) = true) := by show nless c d (I + 1) = true; rw [st.out, decide_eq_true (by omega)]
        clear st hq
        go_wp2_with fail
        go_roundw
        case rel => exact ⟨I + 1, by omega, by go_num, st3, hZ, hY, hB⟩
        case measure => simp [intOf]; omega
    · have st : Hid (nless c d m = true) := by
        obtain rfl : I = m := by omega
        exact hq.out
      clear hq
      go_wp2_with fail
      go_ret
      exact ⟨by rw [st.out]; rfl, hB.out⟩

/-! ### zone -/
/-- The cells of a closed draft, row by row. -/
def flat (n : Nat) (r : Mat) : Row := fun k => r (k / (n + 1)) (k % (n + 1))
def cellsUpto (n : Nat) (r : Mat) (m : Nat) : Row := fun k => if k < m then narB (flat n r k) else 0
def narAll (n : Nat) (r : Mat) : Nat → Bool
  | 0 => true
  | k + 1 => narAll n r k && narOk (flat n r k)
theorem narAll_false {n : Nat} {r : Mat} : ∀ {k : Nat} (m : Nat), k ≤ m → narAll n r k = false → narAll n r m = false := by
  intro k m h e
  induction m with
  | zero => obtain rfl : k = 0 := by omega
            exact e
  | succ m ih =>
    by_cases q : k = m + 1
    · subst q; exact e
    · simp [narAll, ih (by omega)]
/-- What becomes of a draft: none: nothing (ErrBound); some cells: a zone. -/
def zoneR (n : Nat) (r : Mat) : Option Row :=
  match closeR n r with
  | none => some (fun _ => 0)
  | some p => if narAll n p ((n + 1) * (n + 1)) then some (cellsUpto n p ((n + 1) * (n + 1))) else none
theorem cells_next (n : Nat) (r : Mat) (m : Nat) : updR (cellsUpto n r m) m (narB (flat n r m)) = cellsUpto n r (m + 1) := by
  funext a
  unfold updR cellsUpto
  by_cases e : a = m
  · subst e; simp
  · rw [if_neg e]
    congr 1
    apply propext
    omega
theorem zone_none (b n : Nat) (r : Mat) (w : World) (h : n ≤ 8) (hD : Draft w b n r) (e : closeR n r = none) :
    Calls Try.prog 34 #[.pointer (some ⟨b, 0, none⟩)] w fun e w' => ∃ b', w.heap.size ≤ b' ∧ e = .returned (.tuple #[.pointer (some ⟨b', 0, none⟩), .int .i64 0]) ∧ ZoneAt w' b' n (fun _ => 0) ∧ Below b w w' := by
  have HC := hideD (close_any b n r w h hD)
  rw [e] at HC
  go_enter Try.func34, Try.ntmps34
  go_wp2_with fail
  refine HC.out.mono ?_
  rintro e' w1 ⟨rfl, hb, s, hs, -⟩
  have hcl := hs.clocks
  go_wp2_with fail
  refine (none_any n _).mono ?_
  rintro e' w2 ⟨rfl, hz, hb2, hs2⟩
  go_wp2_with fail
  refine bodyPost_ret (v := .tuple #[.pointer (some ⟨w1.heap.size, 0, none⟩), .int .i64 0]) (by simp [results, Try.results34, go_sem]) rfl ⟨w1.heap.size, hb.size, rfl, hz, hb.trans (hb2.mono (Nat.le_of_lt hs.lt))⟩
end Go.Proofs.Ytnfkmpickmonoaa
