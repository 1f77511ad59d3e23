/-
  strings.Cut at a slash.
-/
import Derived.Test.YtmpdicjjaoeblaaDoorSb
import Derived.Test.YtmpdicjjaoeblaaDoorRa
import Derived.Lib.Bytealg
namespace Go.Proofs.YtmpdicjjaoeblaaDoor
open Go.RowKit Go.Shelf
set_option linter.unusedVariables false
/-- What stands ahead of the first slash, what behind it, and whether there is one. -/
def cutL : List UInt8 → List UInt8 × List UInt8 × Bool
  | [] => ([], [], false)
  | c :: l => if c = 47 then ([], l, true) else (c :: (cutL l).1, (cutL l).2.1, (cutL l).2.2)
theorem cut_none {l : List UInt8} (h : ∀ c ∈ l, c ≠ 47) : cutL l = (l, [], false) := by
  induction l with
  | nil => rfl
  | cons c l ih =>
    rw [cutL, if_neg (h c (by simp)), ih (fun x hx => h x (by simp [hx]))]
theorem cut_slash {a b : List UInt8} (h : ∀ c ∈ a, c ≠ 47) : cutL (a ++ [47] ++ b) = (a, b, true) := by
  induction a with
  | nil => simp [cutL]
  | cons c a ih =>
    have e : c :: a ++ [47] ++ b = c :: (a ++ [47] ++ b) := by simp
    rw [e, cutL, if_neg (h c (by simp)), ih (fun x hx => h x (by simp [hx]))]
theorem cut_index (l : List UInt8) : (Lib.indexByte l 47 = -1 ∧ cutL l = (l, [], false)) ∨ ∃ i : Nat, Lib.indexByte l 47 = i ∧ i < l.length ∧ cutL l = (l.take i, l.drop (i + 1), true) := by
  induction l with
  | nil => exact .inl ⟨rfl, rfl⟩
  | cons c l ih =>
    by_cases h : c = 47
    · subst h
      exact .inr ⟨0, by simp [Lib.indexByte], by simp, by simp [cutL]⟩
    · rcases ih with ⟨h1, h2⟩ | ⟨i, h1, h2, h3⟩
      · exact .inl ⟨by simp [Lib.indexByte, h, h1], by simp [cutL, h, h2]⟩
      · refine .inr ⟨i + 1, ?_, by simp; omega, by simp [cutL, h, h3]⟩
        have : ¬ ((i : Int) = -1) := by omega
        simp [Lib.indexByte, h, h1, this]
set_option maxHeartbeats 1000000 in
theorem scut_no (s : ByteArray) (w : World) (h : Lib.indexByte s.data.toList 47 = -1) :
    Calls Tryd.prog 21 #[.string s, .string ⟨#[47]⟩] w fun e w' => e = .returned (.tuple #[.string s, .string ⟨#[]⟩, .bool false]) ∧ w' = w := by
  have H := Go.Proofs.Tryd.stringslite_Index_one s 47 w
  rw [h] at H
  go_enter Tryd.func21, Tryd.ntmps21
  go_wp2_with fail
  refine H.mono ?_
  rintro e w1 ⟨rfl, rfl⟩
  go_wp2_with fail
  go_ret3
  exact ⟨rfl, rfl⟩
set_option maxHeartbeats 1000000 in
theorem scut_yes (s : ByteArray) (i : Nat) (w : World) (h : Lib.indexByte s.data.toList 47 = i) (hi : i < s.size) (hs : s.size ≤ 281474976710656) :
    Calls Tryd.prog 21 #[.string s, .string ⟨#[47]⟩] w fun e w' => e = .returned (.tuple #[.string (s.extract 0 i), .string (s.extract (i + 1) s.size), .bool true]) ∧ ∃ n, w' = w.drewN n := by
  have H := Go.Proofs.Tryd.stringslite_Index_one s 47 w
  rw [h] at H
  have c1 : (0 : Int) ≤ (i : Int) := by omega
  have c2 : (i : Int) ≤ (s.size : Int) := by omega
  have c3 : (0 : Int) ≤ (i : Int) + 1 := by omega
  have c4 : (i : Int) + 1 ≤ (s.size : Int) := by omega
  have c5 : IntKind.i64.wrap ((i : Int) + 1) = (i : Int) + 1 := by rw [IntKind.wrap_i64]; omega
  go_enter Tryd.func21, Tryd.ntmps21
  go_wp2_with fail
  refine H.mono ?_
  rintro e w1 ⟨rfl, rfl⟩
  go_wp2_with fail
  go_quiet (fail)
  go_wp2_with fail
  go_ret3
  exact ⟨rfl, _, rfl⟩
theorem take_bytes (s : ByteArray) (i : Nat) (hi : i ≤ s.size) : s.extract 0 i = ⟨(s.data.toList.take i).toArray⟩ := by
  apply ByteArray.ext
  apply Array.ext'
  simp [ByteArray.data_extract]
theorem drop_bytes (s : ByteArray) (i : Nat) : s.extract i s.size = ⟨(s.data.toList.drop i).toArray⟩ := by
  apply ByteArray.ext
  have := Lib.extract_to_end s i
  apply Array.ext'
  simpa using this
theorem bytes_self (s : ByteArray) : s = ⟨s.data.toList.toArray⟩ := by cases s; simp
theorem scut_any (s : ByteArray) (w : World) (hs : s.size ≤ 281474976710656) :
    Calls Tryd.prog 21 #[.string s, .string ⟨#[47]⟩] w fun e w' => e = .returned (.tuple #[.string ⟨(cutL s.data.toList).1.toArray⟩, .string ⟨(cutL s.data.toList).2.1.toArray⟩, .bool (cutL s.data.toList).2.2]) ∧ Below w.heap.size w w' := by
  have el : s.data.toList.length = s.size := by simp
  rcases cut_index s.data.toList with ⟨h, e⟩ | ⟨i, h, hi, e⟩
  · rw [e]
    refine (scut_no s w h).mono ?_
    rintro x w' ⟨rfl, rfl⟩
    exact ⟨by rw [← bytes_self], Below.refl _ _⟩
  · rw [e]
    refine (scut_yes s i w h (by omega) hs).mono ?_
    rintro x w' ⟨rfl, n, rfl⟩
    exact ⟨by rw [take_bytes s i (by omega), drop_bytes s (i + 1)], below_drewN (Below.refl _ _) _⟩
theorem cut_any (s : ByteArray) (w : World) (hs : s.size ≤ 281474976710656) :
    Calls Tryd.prog 13 #[.string s, .string ⟨#[47]⟩] w fun e w' => e = .returned (.tuple #[.string ⟨(cutL s.data.toList).1.toArray⟩, .string ⟨(cutL s.data.toList).2.1.toArray⟩, .bool (cutL s.data.toList).2.2]) ∧ Below w.heap.size w w' := by
  have H := scut_any s w hs
  go_enter Tryd.func13, Tryd.ntmps13
  go_wp2_with fail
  refine H.mono ?_
  rintro e w1 ⟨rfl, hb⟩
  go_wp2_with fail
  go_ret3
  exact ⟨rfl, hb⟩
theorem cut_len (l : List UInt8) : (cutL l).1.length ≤ l.length ∧ (cutL l).2.1.length ≤ l.length := by
  induction l with
  | nil => simp [cutL]
  | cons c l ih =>
    unfold cutL
    split
    · simp
    · simp
      omega
end Go.Proofs.YtmpdicjjaoeblaaDoor
