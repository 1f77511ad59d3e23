/-
  rat.Parse of every text.
-/
import Derived.Test.YtmpdicjjaoeblaaDoorZc
import Derived.Test.YtmpdicjjaoeblaaDoorZe
namespace Go.Proofs.YtmpdicjjaoeblaaDoor
open Go.RowKit Go.Shelf
set_option linter.unusedVariables false
theorem read_list (m : List UInt8) (w : World) (hlim : m.length ≤ 140737488355328) (ht : Pow w) (he : Errs w) :
    Calls Tryd.prog 14 #[.string ⟨m.toArray⟩] w fun e w' => e = .returned (.tuple #[.int .i64 (readN m), .bool (readS m)]) ∧ Below w.heap.size w w' := by
  have c := read_any ⟨m.toArray⟩ w (by show m.toArray.size ≤ _; simpa using hlim) ht he
  exact c
theorem eq_bytes (a : List UInt8) (s : ByteArray) : ((⟨a.toArray⟩ : ByteArray).toList == s.toList) = decide (a = s.data.toList) := by
  rw [ByteArray.toList_eq, ByteArray.toList_eq]
  by_cases h : a = s.data.toList
  · simp [h]
  · simp [h]
theorem rparse_any (s : ByteArray) (w : World) (hlim : s.size ≤ 140737488355328) (ht : Pow w) (he : Errs w) :
    Calls Tryd.prog 6 #[.string s] w fun e w' => e = .returned (trip (parseT s.data.toList)) ∧ Below w.heap.size w w' := by
  have el : s.data.toList.length = s.size := by simp
  obtain ⟨l1, l2⟩ := cut_len s.data.toList
  have HC : Hid (∀ w, Calls Tryd.prog 13 #[.string s, .string ⟨#[47]⟩] w fun e w' => e = .returned (.tuple #[.string ⟨(cutL s.data.toList).1.toArray⟩, .string ⟨(cutL s.data.toList).2.1.toArray⟩, .bool (cutL s.data.toList).2.2]) ∧ Below w.heap.size w w') := hideR fun w => cut_any s w (by omega)
  have HR1 : Hid (∀ w', Below w.heap.size w w' → Calls Tryd.prog 14 #[.string ⟨(cutL s.data.toList).1.toArray⟩] w' fun e w'' => e = .returned (.tuple #[.int .i64 (readN (cutL s.data.toList).1), .bool (readS (cutL s.data.toList).1)]) ∧ Below w'.heap.size w' w'') := hideR fun w' hb => read_list _ w' (by omega) (pow_later ht hb) (errs_later he hb)
  have HR2 : Hid (∀ w', Below w.heap.size w w' → Calls Tryd.prog 14 #[.string ⟨(cutL s.data.toList).2.1.toArray⟩] w' fun e w'' => e = .returned (.tuple #[.int .i64 (readN (cutL s.data.toList).2.1), .bool (readS (cutL s.data.toList).2.1)]) ∧ Below w'.heap.size w' w'') := hideR fun w' hb => read_list _ w' (by omega) (pow_later ht hb) (errs_later he hb)
  have i1 := read_i64 (cutL s.data.toList).1
  have i2 := read_i64 (cutL s.data.toList).2.1
  have HP : Hid (∀ d, I64 d → ∀ w', Below w.heap.size w w' → Calls Tryd.prog 7 #[rv (readN (cutL s.data.toList).1) d] w' fun e w'' => e = .returned (.string ⟨(printR (readN (cutL s.data.toList).1) d).toArray⟩) ∧ Below w'.heap.size w' w'') := hideR fun d hd w' hb => rprintT _ d w' i1 hd (pow_later ht hb)
  have D : parseT s.data.toList = if okOf s.data.toList = true ∧ printR (readN (cutL s.data.toList).1) (denOf s.data.toList) = s.data.toList then (readN (cutL s.data.toList).1, denOf s.data.toList, 0) else (0, 0, 7) := rfl
  have D1 : denOf s.data.toList = if (cutL s.data.toList).2.2 && readS (cutL s.data.toList).1 then readN (cutL s.data.toList).2.1 else 1 := rfl
  have D2 : okOf s.data.toList = if (cutL s.data.toList).2.2 && readS (cutL s.data.toList).1 then readS (cutL s.data.toList).2.1 else readS (cutL s.data.toList).1 := rfl
  cases o1 : readS (cutL s.data.toList).1
  · rw [o1] at HR1 D1 D2
    rw [Bool.and_false] at D1 D2
    have e : parseT s.data.toList = (0, 0, 7) := by
      rw [D, D2]
      simp
    rw [e]
    cases sl : (cutL s.data.toList).2.2
    · rw [sl] at HC
      exact rparse_a0 s _ _ ⟨#[]⟩ _ 0 w HC HR1
    · rw [sl] at HC
      exact rparse_a1 s _ _ ⟨#[]⟩ _ 0 w HC HR1
  · rw [o1] at HR1 D1 D2
    rw [Bool.and_true] at D1 D2
    cases sl : (cutL s.data.toList).2.2
    · rw [sl] at HC D1 D2
      have E1 : denOf s.data.toList = 1 := D1
      have E2 : okOf s.data.toList = true := D2
      rw [E1, E2] at D
      by_cases q : printR (readN (cutL s.data.toList).1) 1 = s.data.toList
      · rw [D, if_pos ⟨rfl, q⟩]
        exact rparse_b1 s _ _ _ _ 0 w HC HR1 (HP.out 1 ⟨by decide, by decide⟩) (by rw [eq_bytes, decide_eq_true q])
      · rw [D, if_neg (fun h => q h.2)]
        exact rparse_b0 s _ _ _ _ 0 w HC HR1 (HP.out 1 ⟨by decide, by decide⟩) (by rw [eq_bytes, decide_eq_false q])
    · rw [sl] at HC D1 D2
      have E1 : denOf s.data.toList = readN (cutL s.data.toList).2.1 := D1
      have E2 : okOf s.data.toList = readS (cutL s.data.toList).2.1 := D2
      rw [E1, E2] at D
      cases o2 : readS (cutL s.data.toList).2.1
      · rw [o2] at HR2 D
        have e : parseT s.data.toList = (0, 0, 7) := by
          rw [D]
          simp
        rw [e]
        exact rparse_c s _ _ ⟨#[]⟩ _ _ w HC HR1 HR2
      · rw [o2] at HR2 D
        by_cases q : printR (readN (cutL s.data.toList).1) (readN (cutL s.data.toList).2.1) = s.data.toList
        · rw [D, if_pos ⟨rfl, q⟩]
          exact rparse_c1 s _ _ _ _ _ w HC HR1 HR2 (HP.out _ i2) (by rw [eq_bytes, decide_eq_true q])
        · rw [D, if_neg (fun h => q h.2)]
          exact rparse_c0 s _ _ _ _ _ w HC HR1 HR2 (HP.out _ i2) (by rw [eq_bytes, decide_eq_false q])
end Go.Proofs.YtmpdicjjaoeblaaDoor
