/-
  The document's answer for layer 3: Of, Cells; and that it is the program's.
-/
import Derived.Test.YtnfkmpickmonoaaGreatQ7
namespace Go.Proofs.YtnfkmpickmonoaaGreat
open Go.RowKit
set_option linter.unusedVariables false
set_option maxRecDepth 100000
/-- The matrix of a row of wide cells. -/
def rowMat (n : Nat) (l : List Int) : Mat := fun i j => if i ≤ n ∧ j ≤ n then wideV (l.getD (i * (n + 1) + j) 0) else 0
theorem matAt_own {w : World} {base g n cap : Nat} {l : List Int} (hl : l.length = (n + 1) * (n + 1)) (h : w.ownsRow base 2 1 (.slice (some ⟨g, 0, none⟩) l.length cap) l.length ((wideL l l.length).map (Value.int .i64))) : MatAt w g n (rowMat n l) := by
  refine ⟨fun i j hi hj => ?_, fun i j hi hj => h.frozenAt _⟩
  have lt : i * (n + 1) + j < l.length := by rw [hl]; exact pos_lt hi hj
  rw [h.cellAt _ (by omega)]
  simp [wideL, rowMat, List.getD, lt, hi, hj]
/-- What Of tells by the document. -/
def refOf (n : Nat) (l : List Int) : Option (List Int) := madeR n l.length (rowMat n l)
set_option maxHeartbeats 2000000 in
theorem rof_clock (n : Int) (v : Value) (w : World) (h : ¬ (0 ≤ n ∧ n ≤ 8)) :
    Calls Tryz.prog 10 #[.int .i64 n, v] w fun e w' => e = errOf 12 ∧ w' = w := by
  by_cases c : n < 0
  · go_enter Tryz.func10, Tryz.ntmps10
    go_wp2_with fail
    exact bodyPost_ret (v := .tuple #[.pointer none, .int .i64 12]) (by simp [results, Tryz.results10, go_sem]) rfl ⟨rfl, rfl⟩
  · have d : 8 < n := by omega
    go_enter Tryz.func10, Tryz.ntmps10
    go_wp2_with fail
    exact bodyPost_ret (v := .tuple #[.pointer none, .int .i64 12]) (by simp [results, Tryz.results10, go_sem]) rfl ⟨rfl, rfl⟩
set_option maxHeartbeats 2000000 in
theorem rof_long (n len cap m : Nat) (a : Option Addr) (w : World) (h : n ≤ 8) (hm : m = (n + 1) * (n + 1)) (hl : ¬ len = m) :
    Calls Tryz.prog 10 #[.int .i64 n, .slice a len cap] w fun e w' => e = errOf 6 ∧ w' = w := by
  have q81 : (n + 1) * (n + 1) ≤ 81 := Nat.mul_le_mul (show n + 1 ≤ 9 by omega) (show n + 1 ≤ 9 by omega)
  have e1 : IntKind.i64.wrap (((n : Int) + 1) * ((n : Int) + 1)) = (m : Int) := by
    have : ((n : Int) + 1) * ((n : Int) + 1) = (((n + 1) * (n + 1) : Nat) : Int) := by simp
    rw [this, ← hm, IntKind.wrap_i64]
    omega
  have e2 : ((len : Int) != (m : Int)) = true := by simp; omega
  clear hm
  go_enter Tryz.func10, Tryz.ntmps10
  go_wp2_with fail
  exact bodyPost_ret (v := .tuple #[.pointer none, .int .i64 6]) (by simp [results, Tryz.results10, go_sem]) rfl ⟨rfl, rfl⟩
set_option maxHeartbeats 2000000 in
theorem rof_main (n cb off cap : Nat) (l : List Int) (w : World) (h : n ≤ 8) (hlen : l.length = (n + 1) * (n + 1)) (hR : RowAt w cb off l) (hi : ∀ j, j < l.length → -2147483648 ≤ l.getD j 0 ∧ l.getD j 0 ≤ 2147483647) :
    Calls Tryz.prog 10 #[.int .i64 n, .slice (some ⟨cb, off, none⟩) l.length cap] w fun e w' => Below w.heap.size w w' ∧
      ((allRight l l.length = false ∧ e = errOf 7) ∨ (allRight l l.length = true ∧ RZoneOut w' w.heap.size n e (refOf n l))) := by
  have q81 : (n + 1) * (n + 1) ≤ 81 := Nat.mul_le_mul (show n + 1 ≤ 9 by omega) (show n + 1 ≤ 9 by omega)
  have hcb : cb < w.heap.size := World.block_lt_of_cell? _ _ (hR 0 (by rw [hlen]; exact Nat.mul_pos (by omega) (by omega)))
  have HW := hideD (wide_any cb off cap l w (by omega) hR hcb hi)
  have e1 : IntKind.i64.wrap (((n : Int) + 1) * ((n : Int) + 1)) = (l.length : Int) := by
    have : ((n : Int) + 1) * ((n : Int) + 1) = (((n + 1) * (n + 1) : Nat) : Int) := by simp
    rw [this, ← hlen, IntKind.wrap_i64]
    omega
  have HL := hideD hlen
  rw [← hlen] at q81
  have HR := hideD hR
  have HI := hideD hi
  have hpos : 0 < l.length := by rw [hlen]; exact Nat.mul_pos (by omega) (by omega)
  clear hlen hR hi
  generalize em : l.length = m at *
  have m1 : (m : Int) ≤ 81 := by omega
  go_enter Tryz.func10, Tryz.ntmps10
  go_wp2_with fail
  go_loopw [6] (fun s wr => ∃ (K : Nat), K ≤ m ∧ s = .int .i64 K ∧ Hid (allRight l K = true) ∧ wr = w) (fun s _ => m - (intOf s).toNat)
  case atStart => exact ⟨0, by omega, rfl, rfl, rfl⟩
  case round =>
    obtain ⟨K, hK, rfl, hq, rfl⟩ := hrel
    by_cases ck : K < m
    · have hrow := HR.out K (by omega)
      obtain ⟨x0, x1⟩ := HI.out K (by omega)
      have st : Hid (allRight l (K + 1) = rightB (l.getD K 0)) := by show allRight l (K + 1) = _; simp [allRight, hq.out]
      have HB : Hid (∀ w, Calls Tryz.prog 41 #[.int .i32 (l.getD K 0)] w fun e w' => e = .returned (.bool (rightB (l.getD K 0))) ∧ w' = w) := fun w => rright_any _ w x0 x1
      have k1 : (K : Int) < (m : Int) := by omega
      generalize l.getD K 0 = x at *
      cases er : rightB x with
      | false =>
        rw [er] at HB st
        have st3 : Hid (allRight l m = false) := allRight_false (k := K + 1) m (by omega) st.out
        go_wp2_with fail
        refine (HB.out _).mono ?_
        rintro e' w3 ⟨rfl, rfl⟩
        go_wp2_with fail
        exact bodyPost_ret (v := .tuple #[.pointer none, .int .i64 7]) (by simp [results, Tryz.results10, go_sem]) rfl ⟨Below.refl _ _, .inl ⟨st3.out, rfl⟩⟩
      | true =>
        rw [er] at HB st
        go_wp2_with fail
        refine (HB.out _).mono ?_
        rintro e' w3 ⟨rfl, rfl⟩
        go_wp2_with fail
        go_roundw
        case rel => exact ⟨K + 1, by omega, by go_num, st, by first | rfl | trivial⟩
        case measure => simp [intOf]; omega
    · have st : Hid (allRight l m = true) := by
        obtain rfl : K = m := by omega
        exact hq
      clear hq
      go_wp2_with fail
      refine HW.out.mono ?_
      rintro e w1 ⟨v, rfl, hown, hb⟩
      obtain ⟨m', rfl⟩ : ∃ m', m = m' + 1 := ⟨m - 1, by omega⟩
      obtain ⟨gv, cw, rfl⟩ := own_form hown
      have gb := (hown.lt gv rfl).1
      have hmat : MatAt w1 gv n (rowMat n l) := matAt_own (by rw [em]; exact HL.out) (by rw [em]; exact hown)
      have HM := hideD (made_raw gv n (m' + 1) cw _ w1 h HL hmat)
      have RO : Hid (refOf n l = madeR n (m' + 1) (rowMat n l)) := by show refOf n l = _; rw [refOf, em]
      have B1 := hideD hb
      clear hown hmat hb
      go_wp2_with fail
      refine HM.out.mono ?_
      rintro e w2 ⟨hz, hb2⟩
      rw [← RO.out] at hz
      have B2 := hideD (B1.out.trans (hb2.mono gb))
      have sz := B1.out.size
      cases er : refOf n l with
      | none =>
        rw [er] at hz
        obtain rfl := hz
        go_wp2_with fail
        exact bodyPost_ret (v := .tuple #[.pointer none, .int .i64 10]) (by simp [results, Tryz.results10, go_sem]) rfl ⟨B2.out, .inr ⟨st.out, by rw [er]; exact rfl⟩⟩
      | some q =>
        rw [er] at hz
        obtain ⟨b, rfl, g', c', z1, z2, z3, z4, z5⟩ := hz
        go_wp2_with fail
        exact bodyPost_ret (v := .tuple #[.pointer (some ⟨b, 0, none⟩), .int .i64 0]) (by simp [results, Tryz.results10, go_sem]) rfl ⟨B2.out, .inr ⟨st.out, by rw [er]; exact ⟨b, rfl, g', c', z1, z2, by omega, by omega, z5⟩⟩⟩
end Go.Proofs.YtnfkmpickmonoaaGreat

/-
  The program's zone of a row of bounds, and the document's, are one.
-/
namespace Go.Proofs.YtnfkmpickmonoaaGreat
open Go.RowKit
set_option linter.unusedVariables false
def tgV (a x : Int) : Int := if x = 2147483647 then a else min a x
theorem tgAll_at (n : Nat) (l : List Int) (r : Mat) (k : Nat) (hk : k ≤ (n + 1) * (n + 1)) (i j : Nat) :
    tgAll n l k r i j = if i ≤ n ∧ j ≤ n ∧ i * (n + 1) + j < k then tgV (r i j) (l.getD (i * (n + 1) + j) 0) else r i j := by
  induction k with
  | zero => simp [tgAll]
  | succ k ih =>
    have ih := ih (by omega)
    have d1 : k / (n + 1) ≤ n := by have := Nat.div_lt_of_lt_mul (show k < (n + 1) * (n + 1) by omega); omega
    have d2 : k % (n + 1) ≤ n := by have := Nat.mod_lt k (show 0 < n + 1 by omega); omega
    have d3 : k / (n + 1) * (n + 1) + k % (n + 1) = k := by rw [Nat.mul_comm]; exact Nat.div_add_mod k (n + 1)
    by_cases e : i = k / (n + 1) ∧ j = k % (n + 1)
    · obtain ⟨rfl, rfl⟩ := e
      rw [if_neg (by rw [d3]; omega)] at ih
      rw [if_pos ⟨d1, d2, by rw [d3]; omega⟩, d3]
      simp only [tgAll, tg, tgV]
      split
      · exact ih
      · simp [upd, ih]
    · have e2 : tgAll n l (k + 1) r i j = tgAll n l k r i j := by
        simp only [tgAll, tg]
        split
        · rfl
        · simp [upd, e]
      rw [e2, ih]
      congr 1
      apply propext
      constructor
      · rintro ⟨a, b, c⟩
        exact ⟨a, b, by omega⟩
      · rintro ⟨a, b, c⟩
        refine ⟨a, b, ?_⟩
        apply Classical.byContradiction
        intro q
        have : i * (n + 1) + j = k / (n + 1) * (n + 1) + k % (n + 1) := by omega
        exact e (pos_inj b d2 this)
theorem clipAll_at (r : Mat) (c i j : Nat) : clipAll c r i j = if (i = j ∧ i < c) ∨ (i = 0 ∧ j < c) then min 1 (r i j) else r i j := by
  induction c with
  | zero => simp [clipAll]
  | succ c ih =>
    have s : ∀ (q : Mat) (a : Nat), clipD a q i j = if i = a ∧ j = a then min 1 (q i j) else q i j := by
      intro q a
      unfold clipD
      by_cases e : i = a ∧ j = a
      · obtain ⟨rfl, rfl⟩ := e
        by_cases c1 : 1 < q j j
        · rw [if_pos c1, if_pos ⟨rfl, rfl⟩]
          simp [upd]
          omega
        · rw [if_neg c1, if_pos ⟨rfl, rfl⟩]
          omega
      · rw [if_neg e]
        split
        · simp [upd, e]
        · rfl
    have s0 : ∀ (q : Mat) (a : Nat), clip0 a q i j = if i = 0 ∧ j = a then min 1 (q i j) else q i j := by
      intro q a
      unfold clip0
      by_cases e : i = 0 ∧ j = a
      · obtain ⟨rfl, rfl⟩ := e
        by_cases c1 : 1 < q 0 j
        · rw [if_pos c1, if_pos ⟨rfl, rfl⟩]
          simp [upd]
          omega
        · rw [if_neg c1, if_pos ⟨rfl, rfl⟩]
          omega
      · rw [if_neg e]
        split
        · simp [upd, e]
        · rfl
    simp only [clipAll]
    rw [s0, s, ih]
    repeat' split
    all_goals omega
/-- Both begin with one matrix. -/
theorem start_both (n : Nat) (l : List Int) (hi : ∀ j, j < (n + 1) * (n + 1) → l.getD j 0 ≤ 2147483647) : clipAll (n + 1) (rowMat n l) = tgAll n l ((n + 1) * (n + 1)) (startR n (n + 1) 0) := by
  funext i j
  rw [clipAll_at, tgAll_at n l _ _ (Nat.le_refl _)]
  by_cases b : i ≤ n ∧ j ≤ n
  · have lt := pos_lt b.1 b.2
    rw [if_pos (show i ≤ n ∧ j ≤ n ∧ i * (n + 1) + j < (n + 1) * (n + 1) from ⟨b.1, b.2, lt⟩)]
    have x1 := hi _ lt
    have e1 : rowMat n l i j = wideV (l.getD (i * (n + 1) + j) 0) := by simp only [rowMat, if_pos b]
    have e2 : startR n (n + 1) 0 i j = startV i j := by simp only [startR]; rw [if_pos (.inl ⟨by omega, b.2⟩)]
    rw [e1, e2]
    generalize l.getD (i * (n + 1) + j) 0 = x at *
    unfold wideV tgV startV
    repeat' split
    all_goals omega
  · have e1 : rowMat n l i j = 0 := by simp only [rowMat, if_neg b]
    have e2 : startR n (n + 1) 0 i j = 0 := by simp only [startR]; rw [if_neg (by omega)]
    rw [e1, e2, if_neg (by omega), if_neg (by omega)]
theorem listOf_zero (m : Nat) : listOf (fun _ => 0) m = List.replicate m 0 := by
  induction m with
  | zero => rfl
  | succ m ih => simp [listOf, List.range_succ, List.replicate_succ'] at *; exact ih
theorem listOf_cells (n : Nat) (p : Mat) (m : Nat) : listOf (cellsUpto n p m) m = nl n p m := by
  unfold listOf nl
  apply List.map_congr_left
  intro a ha
  have : a < m := by simpa using ha
  simp [cellsUpto, this]
/-- One answer. -/
theorem of_same (n : Nat) (l : List Int) (hl : l.length = (n + 1) * (n + 1)) (hi : ∀ j, j < (n + 1) * (n + 1) → l.getD j 0 ≤ 2147483647) :
    refOf n l = (zoneR n (tgAll n l l.length (startR n (n + 1) 0))).map (fun c => listOf c ((n + 1) * (n + 1))) := by
  have s := start_both n l hi
  have d : ∀ i, i ≤ n → tgAll n l ((n + 1) * (n + 1)) (startR n (n + 1) 0) i i ≤ 1 := by
    intro i h
    rw [← s, clipAll_at, if_pos (.inl ⟨rfl, by omega⟩)]
    omega
  unfold refOf madeR zoneR
  rw [hl, s, ← close_both d]
  cases closeR n (tgAll n l ((n + 1) * (n + 1)) (startR n (n + 1) 0)) with
  | none => simp [listOf_zero]
  | some p =>
    simp only
    split
    · simp [listOf_cells]
    · rfl
end Go.Proofs.YtnfkmpickmonoaaGreat
