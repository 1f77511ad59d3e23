/-
  Blanks and remarks: lex.skipped, and the document's begin.
-/
import Derived.Test.YtdofnjlnleofjaaDoorLb
import Derived.Lib.IndexBytes
namespace Go.Proofs.YtdofnjlnleofjaaDoor
open Go.RowKit
set_option linter.unusedVariables false
def blankI (x : Int) : Bool := (x == 32) || (x == 9) || (x == 13) || (x == 10)
/-- How many bytes of blanks and remarks stand ahead, inside of a remark or not. -/
def skipM : Bool → List UInt8 → Nat
  | _, [] => 0
  | true, c :: l => if (c.toNat : Int) == 10 then 1 + skipM false l else 1 + skipM true l
  | false, c :: l => if blankI c.toNat then 1 + skipM false l else if (c.toNat : Int) == 35 then 1 + skipM true l else 0
theorem skip_le : ∀ (b : Bool) (l : List UInt8), skipM b l ≤ l.length
  | true, [] => Nat.le_refl _
  | false, [] => Nat.le_refl _
  | true, c :: l => by
    have h1 := skip_le true l
    have h2 := skip_le false l
    unfold skipM
    split <;> simp <;> omega
  | false, c :: l => by
    have h1 := skip_le true l
    have h2 := skip_le false l
    unfold skipM
    split
    · simp; omega
    · split
      · simp; omega
      · simp
/-- A remark, then the rest. -/
theorem skip_remark : ∀ l : List UInt8, skipM true l = spanL feedI l + skipM false (l.drop (spanL feedI l))
  | [] => rfl
  | c :: l => by
    by_cases h : ((c.toNat : Int) == 10) = true
    · have e : spanL feedI (c :: l) = 0 := by
        have : feedI (c.toNat : Int) = false := by unfold feedI; rw [h]; rfl
        simp [spanL, this]
      have b : blankI (c.toNat : Int) = true := by unfold blankI; rw [h]; simp
      rw [e, List.drop_zero, skipM, if_pos h, skipM, if_pos b]
      omega
    · have e : spanL feedI (c :: l) = spanL feedI l + 1 := by
        have : feedI (c.toNat : Int) = true := by unfold feedI; simp at h; simp [h]
        simp [spanL, this]
      rw [e, List.drop_succ_cons, skipM, if_neg h, skip_remark l]
      omega
theorem drop_next (s : ByteArray) (k : Nat) (h : k < s.size) : s.data.toList.drop k = s[k] :: s.data.toList.drop (k + 1) := by
  have : k < s.data.toList.length := by simpa using h
  rw [List.drop_eq_getElem_cons this]
  rfl
theorem drop_bytes (s : ByteArray) (i : Nat) : s.extract i s.size = ⟨(s.data.toList.drop i).toArray⟩ := by
  apply ByteArray.ext
  have := Lib.extract_to_end s i
  apply Array.ext'
  simpa using this
/-- One step of the walk. -/
theorem skip_step (s : ByteArray) (k : Nat) (h : k < s.size) :
    (blankI (s[k].toNat : Int) = true → skipM false (s.data.toList.drop k) = 1 + skipM false (s.data.toList.drop (k + 1))) ∧
    (blankI (s[k].toNat : Int) = false → ((s[k].toNat : Int) == 35) = true → 1 ≤ spanL feedI (s.data.toList.drop k) ∧ skipM false (s.data.toList.drop k) = spanL feedI (s.data.toList.drop k) + skipM false (s.data.toList.drop (k + spanL feedI (s.data.toList.drop k)))) ∧
    (blankI (s[k].toNat : Int) = false → ((s[k].toNat : Int) == 35) = false → skipM false (s.data.toList.drop k) = 0) := by
  have d := drop_next s k h
  refine ⟨fun g => ?_, fun g q => ?_, fun g q => ?_⟩
  · rw [d, skipM, if_pos g]
  · have f : feedI (s[k].toNat : Int) = true := by
      have : (s[k].toNat : Int) = 35 := by simpa using q
      unfold feedI
      rw [this]
      rfl
    have e : spanL feedI (s.data.toList.drop k) = spanL feedI (s.data.toList.drop (k + 1)) + 1 := by rw [d, spanL, if_pos f]
    refine ⟨by omega, ?_⟩
    have x : skipM false (s.data.toList.drop k) = 1 + skipM true (s.data.toList.drop (k + 1)) := by rw [d, skipM, if_neg (by rw [g]; decide), if_pos q]
    rw [x, skip_remark, e, List.drop_drop]
    have : k + 1 + spanL feedI (s.data.toList.drop (k + 1)) = k + (spanL feedI (s.data.toList.drop (k + 1)) + 1) := by omega
    rw [this]
    omega
  · rw [d, skipM, if_neg (by rw [g]; decide), if_neg (by rw [q]; decide)]
set_option maxRecDepth 100000 in
set_option maxHeartbeats 1000000 in
theorem skipped_any (s : ByteArray) (w : World) (hs : s.size ≤ 140737488355328) : Calls Tryd.prog 14 #[.string s] w fun e w' => e = .returned (.int .i64 (skipM false s.data.toList)) ∧ w' = w := by
  have ST : Hid (∀ k (h : k < s.size), _) := fun k h => skip_step s k h
  have LE : Hid (∀ k, spanL feedI (s.data.toList.drop k) ≤ s.size - k) := fun k => by have := span_le feedI (s.data.toList.drop k); rw [List.length_drop, len_of] at this; exact this
  have HS : Hid (∀ k w, k ≤ s.size → Calls Tryd.prog 11 #[.string (s.extract k s.size), .func (.func 17) #[] #[]] w fun e w' => e = .returned (.int .i64 (spanL feedI (s.data.toList.drop k))) ∧ w' = w) := fun k w hk => by
    rw [drop_bytes]
    exact span_remark _ w (by show (s.data.toList.drop k).toArray.size ≤ _; simp; omega)
  have DE : Hid (skipM false (s.data.toList.drop s.size) = 0) := by show _ = _; rw [← len_of s, List.drop_length]; rfl
  go_enter Tryd.func14, Tryd.ntmps14
  go_wp2_with fail
  go_loopw [3] (fun i wr => ∃ (k : Nat), k ≤ s.size ∧ i = .int .i64 k ∧ wr = w ∧ Hid (skipM false s.data.toList = k + skipM false (s.data.toList.drop k))) (fun i _ => s.size - (intOf i).toNat)
  case atStart => exact ⟨0, by omega, rfl, rfl, by show _ = _; rw [List.drop_zero, Nat.zero_add]⟩
  case round =>
    obtain ⟨k, hk, rfl, rfl, E⟩ := hrel
    by_cases ck : k < s.size
    · have k0 : (0 : Int) ≤ (k : Int) := by omega
      have k1 : (k : Int) < (s.size : Int) := by omega
      have k2 : (k : Int) ≤ (s.size : Int) := by omega
      have X := ST.out k ck
      have X1 := hideR X.1
      have X2 := hideR X.2.1
      have X3 := hideR X.2.2
      clear X ST DE
      by_cases q0 : ((s[k].toNat : Int) == 32) = true
      · have b0 : ((s[k].toNat : Int) == 32) = true := q0
        have N : Hid (skipM false s.data.toList = ((k + 1 : Nat)) + skipM false (s.data.toList.drop (k + 1))) := by
          show _ = _
          rw [E.out, X1.out (by unfold blankI; simp [b0])]
          omega
        clear X1 X2 X3 E HS LE
        go_wp2_with fail
        go_roundw
        case rel => exact ⟨k + 1, by omega, by go_num, by first | rfl | trivial, N⟩
        case measure => simp [intOf]; omega
      by_cases q1 : ((s[k].toNat : Int) == 9) = true
      · have b0 : ((s[k].toNat : Int) == 32) = false := by simpa using q0
        have b1 : ((s[k].toNat : Int) == 9) = true := q1
        have N : Hid (skipM false s.data.toList = ((k + 1 : Nat)) + skipM false (s.data.toList.drop (k + 1))) := by
          show _ = _
          rw [E.out, X1.out (by unfold blankI; simp [b1])]
          omega
        clear X1 X2 X3 E HS LE
        go_wp2_with fail
        go_roundw
        case rel => exact ⟨k + 1, by omega, by go_num, by first | rfl | trivial, N⟩
        case measure => simp [intOf]; omega
      by_cases q2 : ((s[k].toNat : Int) == 13) = true
      · have b0 : ((s[k].toNat : Int) == 32) = false := by simpa using q0
        have b1 : ((s[k].toNat : Int) == 9) = false := by simpa using q1
        have b2 : ((s[k].toNat : Int) == 13) = true := q2
        have N : Hid (skipM false s.data.toList = ((k + 1 : Nat)) + skipM false (s.data.toList.drop (k + 1))) := by
          show _ = _
          rw [E.out, X1.out (by unfold blankI; simp [b2])]
          omega
        clear X1 X2 X3 E HS LE
        go_wp2_with fail
        go_roundw
        case rel => exact ⟨k + 1, by omega, by go_num, by first | rfl | trivial, N⟩
        case measure => simp [intOf]; omega
      by_cases q3 : ((s[k].toNat : Int) == 10) = true
      · have b0 : ((s[k].toNat : Int) == 32) = false := by simpa using q0
        have b1 : ((s[k].toNat : Int) == 9) = false := by simpa using q1
        have b2 : ((s[k].toNat : Int) == 13) = false := by simpa using q2
        have b3 : ((s[k].toNat : Int) == 10) = true := q3
        have N : Hid (skipM false s.data.toList = ((k + 1 : Nat)) + skipM false (s.data.toList.drop (k + 1))) := by
          show _ = _
          rw [E.out, X1.out (by unfold blankI; simp [b3])]
          omega
        clear X1 X2 X3 E HS LE
        go_wp2_with fail
        go_roundw
        case rel => exact ⟨k + 1, by omega, by go_num, by first | rfl | trivial, N⟩
        case measure => simp [intOf]; omega
      have b0 : ((s[k].toNat : Int) == 32) = false := by simpa using q0
      have b1 : ((s[k].toNat : Int) == 9) = false := by simpa using q1
      have b2 : ((s[k].toNat : Int) == 13) = false := by simpa using q2
      have b3 : ((s[k].toNat : Int) == 10) = false := by simpa using q3
      have bl : blankI (s[k].toNat : Int) = false := by unfold blankI; rw [b0, b1, b2, b3]; rfl
      clear q0 q1 q2 q3 X1
      by_cases q4 : ((s[k].toNat : Int) == 35) = true
      · obtain ⟨g1, g2⟩ := X2.out bl q4
        have le := LE.out k
        have HC := hideR (HS.out k wr hk)
        clear X2 X3 bl HS LE
        have N : Hid (skipM false s.data.toList = (k + spanL feedI (s.data.toList.drop k)) + skipM false (s.data.toList.drop (k + spanL feedI (s.data.toList.drop k)))) := by
          show _ = _
          rw [E.out, g2]
          omega
        clear E g2
        generalize spanL feedI (s.data.toList.drop k) = m at *
        have e1 : IntKind.i64.wrap ((k : Int) + (m : Int)) = ((k + m : Nat) : Int) := by rw [IntKind.wrap_i64]; omega
        go_wp2_with fail
        refine HC.out.mono ?_
        rintro e w1 ⟨rfl, rfl⟩
        go_wp2_with fail
        go_roundw
        case rel => exact ⟨k + m, by omega, by go_num, by first | rfl | trivial, N⟩
        case measure => simp [intOf]; omega
      · have b4 : ((s[k].toNat : Int) == 35) = false := by simpa using q4
        have N := X3.out bl b4
        have R : Hid (skipM false s.data.toList = k) := by show _ = _; rw [E.out, N]; rfl
        clear X2 X3 bl HS LE E N q4
        go_wp2_with fail
        go_ret
        exact ⟨by rw [R.out]; rfl, rfl⟩
    · obtain rfl : k = s.size := by omega
      have R : Hid (skipM false s.data.toList = s.size) := by show _ = _; rw [E.out, DE.out]; rfl
      have k1 : decide ((s.size : Int) < (s.size : Int)) = false := by simp
      clear E ST HS LE DE
      go_wp2_with fail
      go_ret
      exact ⟨by rw [R.out]; rfl, rfl⟩
end Go.Proofs.YtdofnjlnleofjaaDoor
