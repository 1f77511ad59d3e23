/-
  lex.Line and the document's.
-/
import Derived.Test.YtabjadbpllhgkaaDoorLj
import Derived.Test.YtabjadbpllhgkaaDoorSl
namespace Go.Proofs.YtabjadbpllhgkaaDoor
open Go.RowKit
set_option linter.unusedVariables false
/-- How many line feeds stand among the first k bytes. -/
def cntP (s : ByteArray) : Nat → Nat
  | 0 => 0
  | k + 1 => if h : k < s.size then (if ((s[k].toNat : Int) == 10) = true then cntP s k + 1 else cntP s k) else cntP s k
/-- The column behind k bytes. -/
def colP (s : ByteArray) : Nat → Nat
  | 0 => 1
  | k + 1 => if h : k < s.size then (if ((s[k].toNat : Int) == 10) = true then 1 else colP s k + 1) else colP s k
theorem cnt_le (s : ByteArray) : ∀ k, cntP s k ≤ k
  | 0 => Nat.le_refl _
  | k + 1 => by
    have := cnt_le s k
    rw [cntP]
    split
    · split <;> omega
    · omega
theorem col_le (s : ByteArray) : ∀ k, colP s k ≤ k + 1
  | 0 => Nat.le_refl _
  | k + 1 => by
    have := col_le s k
    rw [colP]
    split
    · split <;> omega
    · omega
theorem take_snoc (s : ByteArray) (k : Nat) (h : k < s.size) : s.data.toList.take (k + 1) = s.data.toList.take k ++ [s[k]] := by
  rw [List.take_succ_eq_append_getElem (by simpa using h)]; rfl
theorem ten_is (c : UInt8) : ((c.toNat : Int) == 10) = (c == 10) := by
  rw [Bool.eq_iff_iff]
  simp only [beq_iff_eq]
  constructor
  · intro h
    apply UInt8.toNat_inj.1
    show c.toNat = 10
    omega
  · rintro rfl
    rfl
theorem cnt_is (s : ByteArray) : ∀ k, k ≤ s.size → (s.data.toList.take k).count 10 = cntP s k
  | 0, _ => rfl
  | k + 1, h => by
    have ih := cnt_is s k (by omega)
    rw [take_snoc s k h, List.count_append, ih, cntP, dif_pos (show k < s.size from h), ten_is]
    by_cases c : (s[k] == 10) = true
    · have e : s[k] = 10 := by simpa using c
      rw [if_pos c, e]
      simp
    · have e : ¬ s[k] = 10 := by simpa using c
      rw [if_neg c, List.count_singleton]
      simp [e]
theorem at_cut (s : ByteArray) (m k : Nat) (h : k < m) (hm : m ≤ s.size) : (s.extract 0 m).data[k]! = s[k]'(by omega) := by
  have e : k < (s.extract 0 m).data.size := by
    have : (s.extract 0 m).size = m := by simp; omega
    show k < (s.extract 0 m).size
    omega
  rw [getElem!_pos _ k e]
  simp only [ByteArray.data_extract, Array.getElem_extract, Nat.zero_add]
  rfl
theorem col_is (s : ByteArray) (m : Nat) (hm : m ≤ s.size) : ∀ k, k ≤ m → (k : Int) - Lib.lastIdx (s.extract 0 m) 10 k = colP s k
  | 0, _ => rfl
  | k + 1, h => by
    have ih := col_is s m hm k (by omega)
    rw [colP, dif_pos (show k < s.size by omega)]
    by_cases c : ((s[k].toNat : Int) == 10) = true
    · rw [if_pos c, Lib.lastIdx_hit _ _ _ (by rw [at_cut s m k h hm]; simpa using c)]
      omega
    · rw [if_neg c, Lib.lastIdx_miss _ _ _ (by rw [at_cut s m k h hm]; simpa using c)]
      omega
theorem last_bd (s : ByteArray) (k : Nat) : -1 ≤ Lib.lastIdx s 10 k ∧ Lib.lastIdx s 10 k ≤ k := by
  rcases Lib.lastIdx_spec s 10 k with ⟨e, -⟩ | ⟨i, hi, e, -⟩
  · rw [e]; omega
  · rw [e]; omega
/-- The place that is meant. -/
def placeN (s : ByteArray) (i : Int) : Nat := (min (max i 0) (s.size : Int)).toNat
theorem place_le (s : ByteArray) (i : Int) : placeN s i ≤ s.size := by
  unfold placeN
  omega
set_option maxRecDepth 100000 in
set_option maxHeartbeats 1000000 in
theorem line_any (s : ByteArray) (i : Int) (wf : (Lit.int .i64 i).wf = true) (w : World) (hs : s.size ≤ 140737488355328) : Calls Tryd.prog 15 #[.string s, .int .i64 i] w fun e w' => e = .returned (.tuple #[.int .i64 ((cntP s (placeN s i) + 1 : Nat)), .int .i64 (colP s (placeN s i))]) ∧ w' = w := by
  have hm := place_le s i
  have H1 : Hid (∀ w, Calls Tryd.prog 28 #[.string (s.extract 0 (placeN s i)), .string ⟨#[10]⟩] w fun e w' => e = .returned (.int .i64 (cntP s (placeN s i))) ∧ w' = w) := hideR fun w => by
    have := Tryd.strings_Count_one (s.extract 0 (placeN s i)) 10 w
    unfold Lib.countByte at this
    rw [take_list, cnt_is s _ hm] at this
    exact this
  have sz : (s.extract 0 (placeN s i)).size = placeN s i := by simp; omega
  have H2 : Hid (∀ w, Calls Tryd.prog 29 #[.string (s.extract 0 (placeN s i)), .int .u8 10] w fun e w' => e = .returned (.int .i64 (Lib.lastIdx (s.extract 0 (placeN s i)) 10 (placeN s i))) ∧ w' = w) := hideR fun w => by
    have := Tryd.strings_LastIndexByte (s.extract 0 (placeN s i)) 10 (by rw [sz]; omega) w
    unfold Lib.lastIndexByte at this
    rw [sz] at this
    exact this
  have CI := hideR (col_is s (placeN s i) hm (placeN s i) (Nat.le_refl _))
  have LB := last_bd (s.extract 0 (placeN s i)) (placeN s i)
  have CB := cnt_le s (placeN s i)
  have P0 : Hid (placeN s i = (min (max i 0) (s.size : Int)).toNat) := rfl
  generalize Lib.lastIdx (s.extract 0 (placeN s i)) 10 (placeN s i) = la at *
  generalize cntP s (placeN s i) = cn at *
  generalize colP s (placeN s i) = cl at *
  generalize placeN s i = m at *
  clear wf
  go_enter Tryd.func15, Tryd.ntmps15
  go_wp2_with fail
  rw [← P0.out]
  refine (H1.out _).mono ?_
  rintro e w1 ⟨rfl, rfl⟩
  go_wp2_with fail
  refine (H2.out _).mono ?_
  rintro e w1 ⟨rfl, rfl⟩
  go_wp2_with fail
  go_ret2
  refine ⟨?_, rfl⟩
  have c := CI.out
  first | (rw [show (m : Int) - la = cl from c]; rfl) | (congr 4; omega)
set_option maxRecDepth 100000 in
set_option maxHeartbeats 1000000 in
theorem xline_any (s : ByteArray) (i : Int) (wf : (Lit.int .i64 i).wf = true) (w : World) (hs : s.size ≤ 140737488355328) : Calls Tryd.prog 16 #[.string s, .int .i64 i] w fun e w' => e = .returned (.tuple #[.int .i64 ((cntP s (placeN s i) + 1 : Nat)), .int .i64 (colP s (placeN s i))]) ∧ w' = w := by
  by_cases h0 : i < 0
  · have e : Hid (placeN s i = 0) := by show _ = _; unfold placeN; omega
    rw [e.out]
    have h1 : ¬ (s.size : Int) < 0 := by omega
    clear e wf
    go_enter Tryd.func16, Tryd.ntmps16
    go_wp2_with fail
    go_loopw [6, 7, 8] (fun ln cl ix wr => ∃ k : Nat, k ≤ 0 ∧ ix = .int .i64 k ∧ ln = .int .i64 ((cntP s k + 1 : Nat)) ∧ cl = .int .i64 (colP s k) ∧ wr = w) (fun _ _ ix _ => 0 - (intOf ix).toNat)
    case atStart => exact ⟨0, by omega, rfl, rfl, rfl, rfl⟩
    case round =>
      obtain ⟨k, hk, rfl, rfl, rfl, rfl⟩ := hrel
      have c0 := cnt_le s k
      have c1 := col_le s k
      by_cases ck : k < 0
      · have k0 : (0 : Int) ≤ (k : Int) := by omega
        have k1 : (k : Int) < (s.size : Int) := by omega
        have k2 : (k : Int) < 0 := by omega
        have q : k < s.size := by omega
        have X1 : Hid (cntP s (k + 1) = if ((s[k].toNat : Int) == 10) = true then cntP s k + 1 else cntP s k) := by show _ = _; rw [cntP, dif_pos q]
        have X2 : Hid (colP s (k + 1) = if ((s[k].toNat : Int) == 10) = true then 1 else colP s k + 1) := by show _ = _; rw [colP, dif_pos q]
        generalize cntP s k = cn at *
        generalize colP s k = cl at *
        by_cases z : ((s[k].toNat : Int) == 10) = true
        · go_wp2_with fail
          go_roundw
          case rel => exact ⟨k + 1, by omega, by go_num, by rw [X1.out, if_pos z]; go_num, by rw [X2.out, if_pos z]; rfl, by first | rfl | trivial⟩
          case measure => simp [intOf]; omega
        · have z' : ((s[k].toNat : Int) == 10) = false := by simpa using z
          go_wp2_with fail
          go_roundw
          case rel => exact ⟨k + 1, by omega, by go_num, by rw [X1.out, if_neg z], by rw [X2.out, if_neg z]; go_num, by first | rfl | trivial⟩
          case measure => simp [intOf]; omega
      · obtain rfl : k = 0 := by omega
        have k2 : ¬ ((0 : Nat) : Int) < 0 := by omega
        go_wp2_with fail
        go_ret2
        exact ⟨rfl, rfl⟩
  by_cases h1 : (s.size : Int) < i
  · have e : Hid (placeN s i = s.size) := by show _ = _; unfold placeN; omega
    rw [e.out]
    skip
    clear e wf
    go_enter Tryd.func16, Tryd.ntmps16
    go_wp2_with fail
    go_loopw [6, 7, 8] (fun ln cl ix wr => ∃ k : Nat, k ≤ s.size ∧ ix = .int .i64 k ∧ ln = .int .i64 ((cntP s k + 1 : Nat)) ∧ cl = .int .i64 (colP s k) ∧ wr = w) (fun _ _ ix _ => s.size - (intOf ix).toNat)
    case atStart => exact ⟨0, by omega, rfl, rfl, rfl, rfl⟩
    case round =>
      obtain ⟨k, hk, rfl, rfl, rfl, rfl⟩ := hrel
      have c0 := cnt_le s k
      have c1 := col_le s k
      by_cases ck : k < s.size
      · have k0 : (0 : Int) ≤ (k : Int) := by omega
        have k1 : (k : Int) < (s.size : Int) := by omega
        have k2 : (k : Int) < (s.size : Int) := by omega
        have q : k < s.size := by omega
        have X1 : Hid (cntP s (k + 1) = if ((s[k].toNat : Int) == 10) = true then cntP s k + 1 else cntP s k) := by show _ = _; rw [cntP, dif_pos q]
        have X2 : Hid (colP s (k + 1) = if ((s[k].toNat : Int) == 10) = true then 1 else colP s k + 1) := by show _ = _; rw [colP, dif_pos q]
        generalize cntP s k = cn at *
        generalize colP s k = cl at *
        by_cases z : ((s[k].toNat : Int) == 10) = true
        · go_wp2_with fail
          go_roundw
          case rel => exact ⟨k + 1, by omega, by go_num, by rw [X1.out, if_pos z]; go_num, by rw [X2.out, if_pos z]; rfl, by first | rfl | trivial⟩
          case measure => simp [intOf]; omega
        · have z' : ((s[k].toNat : Int) == 10) = false := by simpa using z
          go_wp2_with fail
          go_roundw
          case rel => exact ⟨k + 1, by omega, by go_num, by rw [X1.out, if_neg z], by rw [X2.out, if_neg z]; go_num, by first | rfl | trivial⟩
          case measure => simp [intOf]; omega
      · obtain rfl : k = s.size := by omega
        have k2 : ¬ ((s.size : Nat) : Int) < (s.size : Int) := by omega
        go_wp2_with fail
        go_ret2
        exact ⟨rfl, rfl⟩
  obtain ⟨a, rfl⟩ : ∃ a : Nat, i = a := ⟨i.toNat, by omega⟩
  have ha : a ≤ s.size := by omega
  · have e : Hid (placeN s (a : Int) = a) := by show _ = _; unfold placeN; omega
    rw [e.out]
    skip
    clear e wf
    go_enter Tryd.func16, Tryd.ntmps16
    go_wp2_with fail
    go_loopw [6, 7, 8] (fun ln cl ix wr => ∃ k : Nat, k ≤ a ∧ ix = .int .i64 k ∧ ln = .int .i64 ((cntP s k + 1 : Nat)) ∧ cl = .int .i64 (colP s k) ∧ wr = w) (fun _ _ ix _ => a - (intOf ix).toNat)
    case atStart => exact ⟨0, by omega, rfl, rfl, rfl, rfl⟩
    case round =>
      obtain ⟨k, hk, rfl, rfl, rfl, rfl⟩ := hrel
      have c0 := cnt_le s k
      have c1 := col_le s k
      by_cases ck : k < a
      · have k0 : (0 : Int) ≤ (k : Int) := by omega
        have k1 : (k : Int) < (s.size : Int) := by omega
        have k2 : (k : Int) < (a : Int) := by omega
        have q : k < s.size := by omega
        have X1 : Hid (cntP s (k + 1) = if ((s[k].toNat : Int) == 10) = true then cntP s k + 1 else cntP s k) := by show _ = _; rw [cntP, dif_pos q]
        have X2 : Hid (colP s (k + 1) = if ((s[k].toNat : Int) == 10) = true then 1 else colP s k + 1) := by show _ = _; rw [colP, dif_pos q]
        generalize cntP s k = cn at *
        generalize colP s k = cl at *
        by_cases z : ((s[k].toNat : Int) == 10) = true
        · go_wp2_with fail
          go_roundw
          case rel => exact ⟨k + 1, by omega, by go_num, by rw [X1.out, if_pos z]; go_num, by rw [X2.out, if_pos z]; rfl, by first | rfl | trivial⟩
          case measure => simp [intOf]; omega
        · have z' : ((s[k].toNat : Int) == 10) = false := by simpa using z
          go_wp2_with fail
          go_roundw
          case rel => exact ⟨k + 1, by omega, by go_num, by rw [X1.out, if_neg z], by rw [X2.out, if_neg z]; go_num, by first | rfl | trivial⟩
          case measure => simp [intOf]; omega
      · obtain rfl : k = a := by omega
        have k2 : ¬ (k : Int) < (k : Int) := by omega
        go_wp2_with fail
        go_ret2
        exact ⟨rfl, rfl⟩
end Go.Proofs.YtabjadbpllhgkaaDoor
