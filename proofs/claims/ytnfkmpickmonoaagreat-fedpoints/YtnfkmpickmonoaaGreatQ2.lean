/-
  A zone in memory; the contracts of none, used, at, hollow, zone.
-/
import Derived.Test.YtnfkmpickmonoaaGreatQ1
namespace Go.Proofs.YtnfkmpickmonoaaGreat
open Go.RowKit
set_option linter.unusedVariables false
abbrev Row := Nat → Int
/-- In block b there lies a zone of n clocks with these cells (the places behind the used ones hold 0). -/
structure ZoneAt (w : World) (b n : Nat) (c : Row) : Prop where
  clocks : w.cell? ⟨b, 0, none⟩ = some (.int .i64 n)
  cell : ∀ k, k < 81 → w.cell? ⟨b, 1 + k, none⟩ = some (.int .i32 (c k))
  free : ∀ k, k < 81 → w.frozen? ⟨b, 1 + k, none⟩ = false
def updR (c : Row) (k : Nat) (v : Int) : Row := fun a => if a = k then v else c a
theorem ZoneAt.set {w : World} {b n : Nat} {c : Row} (h : ZoneAt w b n c) {k : Nat} (hk : k < 81) (v : Int) : ZoneAt (w.setCell ⟨b, 1 + k, none⟩ (.int .i32 v)) b n (updR c k v) := by
  refine ⟨?_, ?_, ?_⟩
  · rw [World.cell?_setCell_other _ _ _ _ (by intro e; injection e; omega)]
    exact h.clocks
  · intro a ha
    by_cases e : a = k
    · subst e
      rw [World.cell?_setCell_same _ _ _ (h.cell a ha)]
      simp [updR]
    · rw [World.cell?_setCell_other _ _ _ _ (by intro e; injection e; omega), h.cell a ha]
      simp [updR, e]
  · intro a ha
    rw [World.frozen?_setCell]
    exact h.free a ha
theorem ZoneAt.drewN {w : World} {b n : Nat} {c : Row} (h : ZoneAt w b n c) (k : Nat) : ZoneAt (w.drewN k) b n c := ⟨h.clocks, h.cell, h.free⟩
theorem ZoneAt.lt {w : World} {b n : Nat} {c : Row} (h : ZoneAt w b n c) : b < w.heap.size := World.block_lt_of_cell? _ _ h.clocks
theorem ZoneAt.later {w w' : World} {b n : Nat} {c : Row} (h : ZoneAt w b n c) {B : Nat} (hb : Below B w w') (hB : b < B) : ZoneAt w' b n c :=
  ⟨(hb.cell hB).trans h.clocks, fun k hk => (hb.cell (p := ⟨b, 1 + k, none⟩) hB).trans (h.cell k hk), fun k hk => (hb.frozen (p := ⟨b, 1 + k, none⟩) hB).trans (h.free k hk)⟩
theorem ZoneAt.past {w w' : World} {b n : Nat} {c : Row} (h : ZoneAt w b n c) (hb : Below w.heap.size w w') : ZoneAt w' b n c := h.later hb h.lt

def y82 : Array Value := #[.int .i64 0] ++ Array.replicate 81 (.int .i32 0)
theorem zeroM (w : World) : Sem.run Tryz.prog (zeroValue 105) w = .ok (.agg y82) w := by kernel_rfl
theorem zeroZ (w : World) : Sem.run Tryz.prog (zeroValue 107) w = .ok (.agg y82) w := by kernel_rfl
theorem y82_ne : (y82 = #[]) = False := by simp [y82]
theorem y82_size : y82.size = 82 := by simp [y82]
theorem new_zone (w : World) (n : Nat) (T : TypeId) : ZoneAt (w.alloc (.cells (y82.setIfInBounds 0 (.int .i64 n)) T)) w.heap.size n (fun _ => 0) := by
  refine ⟨?_, ?_, ?_⟩
  · rw [World.cell?_alloc_at _ _ _ _ rfl]
    simp [y82]
  · intro k hk
    rw [World.cell?_alloc_at _ _ _ _ rfl, Array.getElem?_setIfInBounds_ne (by omega)]
    rw [y82, Array.getElem?_append_right (by simp), Array.getElem?_replicate]
    simp
    omega
  · intro k hk
    rw [World.frozen?_alloc_at _ _ _ _ rfl]
theorem build82 (v : Value) : Array.foldl (fun cs x => cs.setIfInBounds x.snd x.fst) y82 (y82.setIfInBounds 0 v).zipIdx 0 82 = y82.setIfInBounds 0 v := by kernel_rfl
theorem none_any (n : Nat) (w : World) :
    Calls Tryz.prog 62 #[.int .i64 n] w fun e w' => e = .returned (.pointer (some ⟨w.heap.size, 0, none⟩)) ∧ ZoneAt w' w.heap.size n (fun _ => 0) ∧ Below w.heap.size w w' ∧ w'.heap.size = w.heap.size + 1 := by
  have Z1 := fun w => zeroM w
  have Z2 := fun w => zeroZ w
  have Zn := y82_ne
  have Zs := y82_size
  go_enter Tryz.func62, Tryz.ntmps62
  go_wp2
  go_ret
  rw [build82]
  exact ⟨rfl, new_zone w n _, below_one _ _, by simp⟩
end Go.Proofs.YtnfkmpickmonoaaGreat

/-
  The contracts of used, at, hollow, nowhereLess, zone.
-/
namespace Go.Proofs.YtnfkmpickmonoaaGreat
open Go.RowKit
set_option linter.unusedVariables false
set_option maxRecDepth 100000
theorem used_raw (b : Nat) (n s : Int) (q : Nat) (w : World) (hc : w.cell? ⟨b, 0, none⟩ = some (.int .i64 n)) (e : IntKind.i64.wrap (s * s) = (q : Int)) (q1 : q ≤ 81)
    (HS : Hid (∀ w, Calls Tryz.prog 36 #[.agg #[.int .i64 n]] w fun e w' => e = .returned (.int .i64 s) ∧ Below w.heap.size w w')) :
    Calls Tryz.prog 63 #[.pointer (some ⟨b, 0, none⟩)] w fun e w' => e = .returned (.slice (some ⟨b, 1, none⟩) q 81) ∧ Below w.heap.size w w' := by
  have AL : Tryz.prog.arrayLen 103 = 81 := by kernel_rfl
  have q2 : (0 : Int) ≤ (q : Int) := by omega
  have q3 : (q : Int) ≤ 81 := by omega
  go_enter Tryz.func63, Tryz.ntmps63
  go_wp2_with fail
  go_region_held3 (fun w' => Below w.heap.size w w' ∧ w'.cell? ⟨b, 0, none⟩ = some (.int .i64 n))
    (first | exact ⟨by first | assumption | exact Below.refl _ _ | exact Below.drew (Below.refl _ _), by first | assumption | simp [go_sem, *]⟩ | go_keep)
    (first | (go_at_call 36; refine (HS.out _).mono ?_; rintro e' w' ⟨rfl, hb⟩; have s0 := kc ⟨b, 0, none⟩ (.int .i64 n) hb (by first | assumption | simp [go_sem, *]); have s1 := beyondD (w := w) (by first | assumption | exact Below.refl _ _ | exact Below.drew (Below.refl _ _)) hb))
  all_goals
    go_wp2
    go_ret
    exact ⟨rfl, by assumption⟩
theorem used_any (b n : Nat) (w : World) (h : n ≤ 8) (hc : w.cell? ⟨b, 0, none⟩ = some (.int .i64 n)) :
    Calls Tryz.prog 63 #[.pointer (some ⟨b, 0, none⟩)] w fun e w' => e = .returned (.slice (some ⟨b, 1, none⟩) ((n + 1) * (n + 1)) 81) ∧ Below w.heap.size w w' := by
  have q : (n + 1) * (n + 1) ≤ 81 := Nat.mul_le_mul (show n + 1 ≤ 9 by omega) (show n + 1 ≤ 9 by omega)
  refine used_raw b n ((n + 1 : Nat) : Int) _ w hc ?_ q (fun w => side_any n w h)
  rw [← Int.natCast_mul]
  generalize (n + 1) * (n + 1) = z at *
  rw [IntKind.wrap_i64]
  omega
theorem at_raw (b k : Nat) (n s i j v : Int) (w : World) (hc : w.cell? ⟨b, 0, none⟩ = some (.int .i64 n)) (hv : w.cell? ⟨b, 1 + k, none⟩ = some (.int .i32 v)) (hk : k < 81)
    (e : IntKind.i64.wrap (IntKind.i64.wrap (i * s) + j) = (k : Int))
    (HS : Hid (∀ w, Calls Tryz.prog 36 #[.agg #[.int .i64 n]] w fun e w' => e = .returned (.int .i64 s) ∧ Below w.heap.size w w')) :
    Calls Tryz.prog 115 #[.pointer (some ⟨b, 0, none⟩), .int .i64 i, .int .i64 j] w fun e w' => e = .returned (.int .i32 v) ∧ Below w.heap.size w w' := by
  have k0 : (0 : Int) ≤ (k : Int) := by omega
  have k1 : (k : Int) < 81 := by omega
  go_enter Tryz.func115, Tryz.ntmps115
  go_wp2_with fail
  go_region_held3 (fun w' => Below w.heap.size w w' ∧ w'.cell? ⟨b, 0, none⟩ = some (.int .i64 n) ∧ w'.cell? ⟨b, 1 + k, none⟩ = some (.int .i32 v))
    (first | exact ⟨by first | assumption | exact Below.refl _ _ | exact Below.drew (Below.refl _ _), by first | assumption | simp [go_sem, *], by first | assumption | simp [go_sem, *]⟩ | go_keep)
    (first | (go_at_call 36; refine (HS.out _).mono ?_; rintro e' w' ⟨rfl, hb⟩; have s0 := kc ⟨b, 0, none⟩ (.int .i64 n) hb (by first | assumption | simp [go_sem, *]); have s2 := kc ⟨b, 1 + k, none⟩ (.int .i32 v) hb (by first | assumption | simp [go_sem, *]); have s1 := beyondD (w := w) (by first | assumption | exact Below.refl _ _ | exact Below.drew (Below.refl _ _)) hb))
  all_goals
    go_wp2
    go_ret
    exact ⟨rfl, by assumption⟩
theorem at_any (b n i j : Nat) (c : Row) (w : World) (h : n ≤ 8) (hi : i ≤ n) (hj : j ≤ n) (hz : ZoneAt w b n c) :
    Calls Tryz.prog 115 #[.pointer (some ⟨b, 0, none⟩), .int .i64 i, .int .i64 j] w fun e w' => e = .returned (.int .i32 (c (i * (n + 1) + j))) ∧ Below w.heap.size w w' := by
  have hk : i * (n + 1) + j < 81 := by
    have : i * (n + 1) ≤ 8 * 9 := Nat.mul_le_mul (by omega) (by omega)
    omega
  refine at_raw b (i * (n + 1) + j) n ((n + 1 : Nat) : Int) i j _ w hz.clocks (hz.cell _ hk) hk ?_ (fun w => side_any n w h)
  rw [← Int.natCast_mul]
  generalize i * (n + 1) = z at *
  rw [IntKind.wrap_i64, IntKind.wrap_i64]
  omega
theorem hollow_raw (b : Nat) (v : Int) (w : World) (H : Hid (∀ w', Below w.heap.size w w' → Calls Tryz.prog 115 #[.pointer (some ⟨b, 0, none⟩), .int .i64 0, .int .i64 0] w' fun e w'' => e = .returned (.int .i32 v) ∧ Below w'.heap.size w' w'')) :
    Calls Tryz.prog 88 #[.pointer (some ⟨b, 0, none⟩)] w fun e w' => e = .returned (.bool (decide (v < 1))) ∧ Below w.heap.size w w' := by
  go_enter Tryz.func88, Tryz.ntmps88
  go_wp2_with fail
  refine (H.out _ (Below.refl _ _)).mono ?_
  rintro e w' ⟨rfl, hb⟩
  go_wp2
  go_ret
  exact ⟨rfl, hb⟩
theorem hollow_any (b n : Nat) (c : Row) (w : World) (h : n ≤ 8) (hz : ZoneAt w b n c) :
    Calls Tryz.prog 88 #[.pointer (some ⟨b, 0, none⟩)] w fun e w' => e = .returned (.bool (decide (c 0 < 1))) ∧ Below w.heap.size w w' := by
  refine hollow_raw b (c 0) w fun w' hb => ?_
  have := at_any b n 0 0 c w' h (by omega) (by omega) (hz.past hb)
  simpa using this
/-! ### nowhereLess -/
def nless (c d : Row) : Nat → Bool
  | 0 => true
  | k + 1 => nless c d k && decide (d k ≤ c k)
theorem nless_false {c d : Row} : ∀ {k : Nat} (m : Nat), k ≤ m → nless c d k = false → nless c d m = false := by
  intro k m h e
  induction m with
  | zero => obtain rfl : k = 0 := by omega
            exact e
  | succ m ih =>
    by_cases q : k = m + 1
    · subst q; exact e
    · simp [nless, ih (by omega)]
set_option maxHeartbeats 1000000 in
theorem nless_any (b o n : Nat) (c d : Row) (w : World) (h : n ≤ 8) (hz : ZoneAt w b n c) (hy : ZoneAt w o n d) :
    Calls Tryz.prog 107 #[.pointer (some ⟨b, 0, none⟩), .pointer (some ⟨o, 0, none⟩)] w fun e w' => e = .returned (.bool (nless c d ((n + 1) * (n + 1)))) ∧ Below w.heap.size w w' := by
  have HU := hideD (used_any b n w h hz.clocks)
  have hm : (n + 1) * (n + 1) ≤ 81 := Nat.mul_le_mul (show n + 1 ≤ 9 by omega) (show n + 1 ≤ 9 by omega)
  generalize (n + 1) * (n + 1) = m at *
  have hm1 : (m : Int) ≤ 81 := by omega
  have HZ := hideD hz
  have HY := hideD hy
  clear hz hy
  go_enter Tryz.func107, Tryz.ntmps107
  go_wp2_with fail
  refine HU.out.mono ?_
  rintro e w1 ⟨rfl, hb⟩
  have hZ := hideD (HZ.out.past hb)
  have hY := hideD (HY.out.past hb)
  have hB := hideD hb
  clear HZ HY hb HU
  go_wp2_with fail
  go_loopw [10] (fun s wr => ∃ (I : Nat), I ≤ m ∧ s = .int .i64 I ∧ Hid (nless c d I = true) ∧ Hid (ZoneAt wr b n c) ∧ Hid (ZoneAt wr o n d) ∧ Hid (Below w.heap.size w wr)) (fun s _ => m - (intOf s).toNat)
  case atStart => exact ⟨0, by omega, rfl, rfl, hZ, hY, hB⟩
  case round =>
    obtain ⟨I, hI, rfl, hq, hZ, hY, hB⟩ := hrel
    by_cases ci : I < m
    · have h1 := hZ.out.cell I (by omega)
      have h2 := hY.out.cell I (by omega)
      have st : Hid (nless c d (I + 1) = decide (d I ≤ c I)) := by show nless c d (I + 1) = _; simp [nless, hq.out]
      have i0 : (0 : Int) ≤ (I : Int) := by omega
      have i1 : (I : Int) < 81 := by omega
      generalize c I = x at *
      generalize d I = y at *
      by_cases cx : x < y
      · have st3 : Hid (nless c d m = false) := by
          show nless c d m = false
          refine nless_false (k := I + 1) m (by omega) ?_
          rw [st.out, decide_eq_false (by omega)]
        clear st hq
        go_wp2_with fail
        go_ret
        exact ⟨by rw [st3.out]; rfl, hB.out⟩
      · have st3 : Hid (nless c d (I + 1) = true) := by show nless c d (I + 1) = true; rw [st.out, decide_eq_true (by omega)]
        clear st hq
        go_wp2_with fail
        go_roundw
        case rel => exact ⟨I + 1, by omega, by go_num, st3, hZ, hY, hB⟩
        case measure => simp [intOf]; omega
    · have st : Hid (nless c d m = true) := by
        obtain rfl : I = m := by omega
        exact hq.out
      clear hq
      go_wp2_with fail
      go_ret
      exact ⟨by rw [st.out]; rfl, hB.out⟩

/-! ### zone -/
/-- The cells of a closed draft, row by row. -/
def flat (n : Nat) (r : Mat) : Row := fun k => r (k / (n + 1)) (k % (n + 1))
def cellsUpto (n : Nat) (r : Mat) (m : Nat) : Row := fun k => if k < m then narB (flat n r k) else 0
def narAll (n : Nat) (r : Mat) : Nat → Bool
  | 0 => true
  | k + 1 => narAll n r k && narOk (flat n r k)
theorem narAll_false {n : Nat} {r : Mat} : ∀ {k : Nat} (m : Nat), k ≤ m → narAll n r k = false → narAll n r m = false := by
  intro k m h e
  induction m with
  | zero => obtain rfl : k = 0 := by omega
            exact e
  | succ m ih =>
    by_cases q : k = m + 1
    · subst q; exact e
    · simp [narAll, ih (by omega)]
/-- What becomes of a draft: none: nothing (ErrBound); some cells: a zone. -/
def zoneR (n : Nat) (r : Mat) : Option Row :=
  match closeR n r with
  | none => some (fun _ => 0)
  | some p => if narAll n p ((n + 1) * (n + 1)) then some (cellsUpto n p ((n + 1) * (n + 1))) else none
theorem cells_next (n : Nat) (r : Mat) (m : Nat) : updR (cellsUpto n r m) m (narB (flat n r m)) = cellsUpto n r (m + 1) := by
  funext a
  unfold updR cellsUpto
  by_cases e : a = m
  · subst e; simp
  · rw [if_neg e]
    congr 1
    apply propext
    omega
theorem zone_none (b n : Nat) (r : Mat) (w : World) (h : n ≤ 8) (hD : Draft w b n r) (e : closeR n r = none) :
    Calls Tryz.prog 40 #[.pointer (some ⟨b, 0, none⟩)] w fun e w' => ∃ b', w.heap.size ≤ b' ∧ e = .returned (.tuple #[.pointer (some ⟨b', 0, none⟩), .int .i64 0]) ∧ ZoneAt w' b' n (fun _ => 0) ∧ Below b w w' := by
  have HC := hideD (close_any b n r w h hD)
  rw [e] at HC
  go_enter Tryz.func40, Tryz.ntmps40
  go_wp2_with fail
  refine HC.out.mono ?_
  rintro e' w1 ⟨rfl, hb, s, hs, -⟩
  have hcl := hs.clocks
  go_wp2_with fail
  refine (none_any n _).mono ?_
  rintro e' w2 ⟨rfl, hz, hb2, hs2⟩
  go_wp2_with fail
  refine bodyPost_ret (v := .tuple #[.pointer (some ⟨w1.heap.size, 0, none⟩), .int .i64 0]) (by simp [results, Tryz.results40, go_sem]) rfl ⟨w1.heap.size, hb.size, rfl, hz, hb.trans (hb2.mono (Nat.le_of_lt hs.lt))⟩
end Go.Proofs.YtnfkmpickmonoaaGreat

/-
  The contract of zone: what becomes of a draft.
-/
namespace Go.Proofs.YtnfkmpickmonoaaGreat
open Go.RowKit
set_option linter.unusedVariables false
set_option maxRecDepth 100000
set_option maxHeartbeats 1000000 in
theorem zone_some (b n : Nat) (r p : Mat) (w : World) (h : n ≤ 8) (hD : Draft w b n r) (e : closeR n r = some p) :
    Calls Tryz.prog 40 #[.pointer (some ⟨b, 0, none⟩)] w fun e w' => Below b w w' ∧
      ((narAll n p ((n + 1) * (n + 1)) = false ∧ e = .returned (.tuple #[.pointer none, .int .i64 10])) ∨
       (narAll n p ((n + 1) * (n + 1)) = true ∧ ∃ b', w.heap.size ≤ b' ∧ e = .returned (.tuple #[.pointer (some ⟨b', 0, none⟩), .int .i64 0]) ∧ ZoneAt w' b' n (cellsUpto n p ((n + 1) * (n + 1))))) := by
  have HC := hideD (close_any b n r w h hD)
  rw [e] at HC
  have hm : (n + 1) * (n + 1) ≤ 81 := Nat.mul_le_mul (show n + 1 ≤ 9 by omega) (show n + 1 ≤ 9 by omega)
  have HU : Hid (∀ bz w, w.cell? ⟨bz, 0, none⟩ = some (.int .i64 n) → Calls Tryz.prog 63 #[.pointer (some ⟨bz, 0, none⟩)] w fun e w' => e = .returned (.slice (some ⟨bz, 1, none⟩) ((n + 1) * (n + 1)) 81) ∧ Below w.heap.size w w') := fun bz w hz => used_any bz n w h hz
  have HQ : Hid (∀ k, k < (n + 1) * (n + 1) → k / (n + 1) ≤ n ∧ k % (n + 1) ≤ n) := fun k hk => ⟨by have := Nat.div_lt_of_lt_mul hk; omega, by have := Nat.mod_lt k (show 0 < n + 1 by omega); omega⟩
  generalize (n + 1) * (n + 1) = m at *
  have hm1 : (m : Int) ≤ 81 := by omega
  go_enter Tryz.func40, Tryz.ntmps40
  go_wp2_with fail
  refine HC.out.mono ?_
  rintro e' w1 ⟨rfl, hb, s, hs, hp⟩
  obtain rfl := hp p rfl
  have hcl := hs.clocks
  have hB1 := hideD hb
  have hD1 := hideD hs
  clear hb hs hp HC hD
  go_wp2_with fail
  refine (none_any n _).mono ?_
  rintro e' w2 ⟨rfl, hz, hb2, hs2⟩
  have hB2 := hideD (hB1.out.trans (hb2.mono (Nat.le_of_lt hD1.out.lt)))
  have hD2 := hideD (hD1.out.later hb2 hD1.out.lt)
  have hl := hideD hD1.out.lt
  have hsz := hideD hB1.out.size
  generalize w1.heap.size = bz at *
  have hZ := hideD hz
  have hcz := hz.clocks
  clear hz hb2 hB1 hD1 hs2
  go_wp2_with fail
  refine (HU.out _ _ hcz).mono ?_
  rintro e' w3 ⟨rfl, hb⟩
  have hZ3 := hideD (hZ.out.past hb)
  have hD3 := hideD (hD2.out.later hb hD2.out.lt)
  have hB3 := hideD (hB2.out.trans (hb.mono (Nat.le_of_lt hD2.out.lt)))
  clear hb hZ hD2 hB2 hcz
  go_wp2_with fail
  go_loopw [30] (fun s wr => ∃ (K : Nat), K ≤ m ∧ s = .int .i64 K ∧ Hid (narAll n p K = true) ∧ Hid (ZoneAt wr bz n (cellsUpto n p K)) ∧ Hid (Draft wr b n p) ∧ Hid (Below b w wr)) (fun s _ => m - (intOf s).toNat)
  case atStart => exact ⟨0, by omega, rfl, rfl, hZ3, hD3, hB3⟩
  case round =>
    obtain ⟨K, hK, rfl, hq, hZ, hD, hB⟩ := hrel
    clear hZ3 hD3 hB3
    by_cases ck : K < m
    · have HP : Hid (∀ w, Calls Tryz.prog 38 #[.agg #[.int .i64 n], .int .i64 K] w fun e w' => e = .returned (.tuple #[.int .i64 ((K / (n + 1) : Nat) : Int), .int .i64 ((K % (n + 1) : Nat) : Int)]) ∧ Below w.heap.size w w') := fun w => place_any n K w h (by omega)
      obtain ⟨i1, j1⟩ := HQ.out K ck
      have st : Hid (narAll n p (K + 1) = narOk (p (K / (n + 1)) (K % (n + 1)))) := by show narAll n p (K + 1) = _; simp [narAll, hq.out, flat]
      have nx := hideD (cells_next n p K)
      have nx : Hid (updR (cellsUpto n p K) K (narB (p (K / (n + 1)) (K % (n + 1)))) = cellsUpto n p (K + 1)) := nx
      generalize K / (n + 1) = i at *
      generalize K % (n + 1) = j at *
      have hcz := hZ.out.clocks
      have k0 : (0 : Int) ≤ (K : Int) := by omega
      have k1 : (K : Int) < 81 := by omega
      go_wp2_with fail
      refine (HP.out _).mono ?_
      rintro e' w4 ⟨rfl, hb⟩
      have hZ4 := hideD (hZ.out.past hb)
      have hD4 := hideD (hD.out.later hb hD.out.lt)
      have hB4 := hideD (hB.out.trans (hb.mono (Nat.le_of_lt hD.out.lt)))
      have h1 := hD4.out.cell i j (by omega) (by omega)
      have h2 := hZ4.out.cell K (by omega)
      have h3 := hZ4.out.free K (by omega)
      clear hb hZ hD hB hcz
      have HN : Hid (∀ w, Calls Tryz.prog 64 #[.int .i64 (p i j)] w fun e w' => e = .returned (.tuple #[.int .i32 (narB (p i j)), .bool (narOk (p i j))]) ∧ w' = w) := fun w => narrow_dbm _ w
      generalize p i j = x at *
      generalize narB x = y at *
      cases eo : narOk x with
      | false =>
        rw [eo] at HN st
        have st3 : Hid (narAll n p m = false) := narAll_false (k := K + 1) m (by omega) st.out
        go_wp2_with fail
        refine (HN.out _).mono ?_
        rintro e' w5 ⟨rfl, rfl⟩
        go_wp2_with fail
        refine bodyPost_ret (v := .tuple #[.pointer none, .int .i64 10]) (by simp [results, Tryz.results40, go_sem]) rfl ⟨hB4.out, .inl ⟨st3.out, rfl⟩⟩
      | true =>
        rw [eo] at HN st
        go_wp2_with fail
        refine (HN.out _).mono ?_
        rintro e' w5 ⟨rfl, rfl⟩
        go_wp2_with fail
        go_roundw
        case rel => exact ⟨K + 1, by omega, by go_num, st, by rw [← nx.out]; exact hZ4.out.set (by omega) _, hD4.out.later ((Below.refl bz _).setCell (Nat.le_refl _) _) hl.out, hB4.out.setCell (Nat.le_of_lt hl.out) _⟩
        case measure => simp [intOf]; omega
    · have st : Hid (K = m) := by show K = m; omega
      have hq' : Hid (narAll n p m = true) := by have e := st.out; subst e; exact hq
      have hZ' : Hid (ZoneAt wr bz n (cellsUpto n p m)) := by have e := st.out; subst e; exact hZ
      go_wp2_with fail
      refine bodyPost_ret (v := .tuple #[.pointer (some ⟨bz, 0, none⟩), .int .i64 0]) (by simp [results, Tryz.results40, go_sem]) rfl ⟨hB.out, .inr ⟨hq'.out, bz, hsz.out, rfl, hZ'.out⟩⟩
/-- What becomes of a draft. -/
def ZoneOut (w' : World) (B n : Nat) (e : Ending) : Option Row → Prop
  | none => e = .returned (.tuple #[.pointer none, .int .i64 10])
  | some c => ∃ b', B ≤ b' ∧ e = .returned (.tuple #[.pointer (some ⟨b', 0, none⟩), .int .i64 0]) ∧ ZoneAt w' b' n c
theorem zone_any (b n : Nat) (r : Mat) (w : World) (h : n ≤ 8) (hD : Draft w b n r) :
    Calls Tryz.prog 40 #[.pointer (some ⟨b, 0, none⟩)] w fun e w' => ZoneOut w' w.heap.size n e (zoneR n r) ∧ Below b w w' := by
  cases e : closeR n r with
  | none =>
    refine (zone_none b n r w h hD e).mono ?_
    rintro e' w' ⟨b', hb, rfl, hz, hB⟩
    have ez : zoneR n r = some (fun _ => 0) := by simp [zoneR, e]
    rw [ez]
    exact ⟨⟨b', hb, rfl, hz⟩, hB⟩
  | some p =>
    refine (zone_some b n r p w h hD e).mono ?_
    rintro e' w' ⟨hB, ⟨hn, rfl⟩ | ⟨hn, b', hb, rfl, hz⟩⟩
    · have ez : zoneR n r = none := by simp [zoneR, e, hn]
      rw [ez]
      exact ⟨rfl, hB⟩
    · have ez : zoneR n r = some (cellsUpto n p ((n + 1) * (n + 1))) := by simp [zoneR, e, hn]
      rw [ez]
      exact ⟨⟨b', hb, rfl, hz⟩, hB⟩
end Go.Proofs.YtnfkmpickmonoaaGreat
