/-
  strings.Cut at a byte.
-/
import Derived.Test.YtdkolgndebkloaaGreatDoorSbz
import Derived.Test.YtdkolgndebkloaaGreatDoorZg
import Derived.Lib.Bytealg
namespace Go.Proofs.YtdkolgndebkloaaGreatDoor
open Go.RowKit Go.Shelf
set_option linter.unusedVariables false
/-- What stands ahead of the first such byte, what behind it, and whether there is one. -/
def cutB (b : UInt8) : List UInt8 → List UInt8 × List UInt8 × Bool
  | [] => ([], [], false)
  | c :: l => if c = b then ([], l, true) else (c :: (cutB b l).1, (cutB b l).2.1, (cutB b l).2.2)
theorem cutB_none {b : UInt8} {l : List UInt8} (h : ∀ c ∈ l, c ≠ b) : cutB b l = (l, [], false) := by
  induction l with
  | nil => rfl
  | cons c l ih =>
    rw [cutB, if_neg (h c (by simp)), ih (fun x hx => h x (by simp [hx]))]
theorem cutB_one {b : UInt8} {a d : List UInt8} (h : ∀ c ∈ a, c ≠ b) : cutB b (a ++ [b] ++ d) = (a, d, true) := by
  induction a with
  | nil => simp [cutB]
  | cons c a ih =>
    have e : c :: a ++ [b] ++ d = c :: (a ++ [b] ++ d) := by simp
    rw [e, cutB, if_neg (h c (by simp)), ih (fun x hx => h x (by simp [hx]))]
theorem cutB_index (b : UInt8) (l : List UInt8) : (Lib.indexByte l b = -1 ∧ cutB b l = (l, [], false)) ∨ ∃ i : Nat, Lib.indexByte l b = i ∧ i < l.length ∧ cutB b l = (l.take i, l.drop (i + 1), true) := by
  induction l with
  | nil => exact .inl ⟨rfl, rfl⟩
  | cons c l ih =>
    by_cases h : c = b
    · subst h
      exact .inr ⟨0, by simp [Lib.indexByte], by simp, by simp [cutB]⟩
    · rcases ih with ⟨h1, h2⟩ | ⟨i, h1, h2, h3⟩
      · exact .inl ⟨by simp [Lib.indexByte, h, h1], by simp [cutB, h, h2]⟩
      · refine .inr ⟨i + 1, ?_, by simp; omega, by simp [cutB, h, h3]⟩
        have : ¬ ((i : Int) = -1) := by omega
        simp [Lib.indexByte, h, h1, this]
set_option maxHeartbeats 1000000 in
theorem scut_no (b : UInt8) (s : ByteArray) (w : World) (h : Lib.indexByte s.data.toList b = -1) :
    Calls Tryz.prog 67 #[.string s, .string ⟨#[b]⟩] w fun e w' => e = .returned (.tuple #[.string s, .string ⟨#[]⟩, .bool false]) ∧ w' = w := by
  have H := Go.Proofs.Tryz.stringslite_Index_one s b w
  rw [h] at H
  go_enter Tryz.func67, Tryz.ntmps67
  go_wp2_with fail
  refine H.mono ?_
  rintro e w1 ⟨rfl, rfl⟩
  go_wp2_with fail
  go_ret3
  exact ⟨rfl, rfl⟩
set_option maxHeartbeats 1000000 in
theorem scut_yes (b : UInt8) (s : ByteArray) (i : Nat) (w : World) (h : Lib.indexByte s.data.toList b = i) (hi : i < s.size) (hs : s.size ≤ 281474976710656) :
    Calls Tryz.prog 67 #[.string s, .string ⟨#[b]⟩] w fun e w' => e = .returned (.tuple #[.string (s.extract 0 i), .string (s.extract (i + 1) s.size), .bool true]) ∧ ∃ n, w' = w.drewN n := by
  have H := Go.Proofs.Tryz.stringslite_Index_one s b w
  rw [h] at H
  have c1 : (0 : Int) ≤ (i : Int) := by omega
  have c2 : (i : Int) ≤ (s.size : Int) := by omega
  have c3 : (0 : Int) ≤ (i : Int) + 1 := by omega
  have c4 : (i : Int) + 1 ≤ (s.size : Int) := by omega
  have c5 : IntKind.i64.wrap ((i : Int) + 1) = (i : Int) + 1 := by rw [IntKind.wrap_i64]; omega
  go_enter Tryz.func67, Tryz.ntmps67
  go_wp2_with fail
  refine H.mono ?_
  rintro e w1 ⟨rfl, rfl⟩
  go_wp2_with fail
  go_quiet (fail)
  go_wp2_with fail
  go_ret3
  exact ⟨rfl, _, rfl⟩
theorem take_bytes (s : ByteArray) (i : Nat) (hi : i ≤ s.size) : s.extract 0 i = ⟨(s.data.toList.take i).toArray⟩ := by
  apply ByteArray.ext
  apply Array.ext'
  simp [ByteArray.data_extract]
theorem drop_bytes (s : ByteArray) (i : Nat) : s.extract i s.size = ⟨(s.data.toList.drop i).toArray⟩ := by
  apply ByteArray.ext
  have := Lib.extract_to_end s i
  apply Array.ext'
  simpa using this
theorem bytes_self (s : ByteArray) : s = ⟨s.data.toList.toArray⟩ := by cases s; simp
theorem scut_any (b : UInt8) (s : ByteArray) (w : World) (hs : s.size ≤ 281474976710656) :
    Calls Tryz.prog 67 #[.string s, .string ⟨#[b]⟩] w fun e w' => e = .returned (.tuple #[.string ⟨(cutB b s.data.toList).1.toArray⟩, .string ⟨(cutB b s.data.toList).2.1.toArray⟩, .bool (cutB b s.data.toList).2.2]) ∧ Below w.heap.size w w' := by
  have el : s.data.toList.length = s.size := by simp
  rcases cutB_index b s.data.toList with ⟨h, e⟩ | ⟨i, h, hi, e⟩
  · rw [e]
    refine (scut_no b s w h).mono ?_
    rintro x w' ⟨rfl, rfl⟩
    exact ⟨by rw [← bytes_self], Below.refl _ _⟩
  · rw [e]
    refine (scut_yes b s i w h (by omega) hs).mono ?_
    rintro x w' ⟨rfl, n, rfl⟩
    exact ⟨by rw [take_bytes s i (by omega), drop_bytes s (i + 1)], below_drewN (Below.refl _ _) _⟩
theorem cutB_any (b : UInt8) (s : ByteArray) (w : World) (hs : s.size ≤ 281474976710656) :
    Calls Tryz.prog 47 #[.string s, .string ⟨#[b]⟩] w fun e w' => e = .returned (.tuple #[.string ⟨(cutB b s.data.toList).1.toArray⟩, .string ⟨(cutB b s.data.toList).2.1.toArray⟩, .bool (cutB b s.data.toList).2.2]) ∧ Below w.heap.size w w' := by
  have H := scut_any b s w hs
  go_enter Tryz.func47, Tryz.ntmps47
  go_wp2_with fail
  refine H.mono ?_
  rintro e w1 ⟨rfl, hb⟩
  go_wp2_with fail
  go_ret3
  exact ⟨rfl, hb⟩
theorem cutB_len (b : UInt8) (l : List UInt8) : (cutB b l).1.length ≤ l.length ∧ (cutB b l).2.1.length ≤ l.length := by
  induction l with
  | nil => simp [cutB]
  | cons c l ih =>
    unfold cutB
    split
    · simp
    · simp
      omega
end Go.Proofs.YtdkolgndebkloaaGreatDoor
