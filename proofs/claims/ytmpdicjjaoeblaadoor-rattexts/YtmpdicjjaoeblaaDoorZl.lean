/-
  The document's Parse of every text: what the program's tells.
-/
import Derived.Test.YtmpdicjjaoeblaaDoorZk
import Derived.Test.YtmpdicjjaoeblaaDoorZf
namespace Go.Proofs.YtmpdicjjaoeblaaDoor
open Go.RowKit Go.Shelf
set_option linter.unusedVariables false
theorem get_of (s : ByteArray) (k : Nat) (h : k < s.size) : s.data.toList[k]? = some s[k] := by
  have : k < s.data.toList.length := by simpa using h
  rw [List.getElem?_eq_getElem this]
  rfl
theorem parseX_no {l : List UInt8} (h : ¬ (okX l = true ∧ rightR (decT (cutL l).1).1 (denX l) = true ∧ printR (decT (cutL l).1).1 (denX l) = l)) : parseX l = (0, 0, 7) := by
  unfold parseX
  rw [if_neg h]
theorem parseX_yes {l : List UInt8} (h : okX l = true ∧ rightR (decT (cutL l).1).1 (denX l) = true ∧ printR (decT (cutL l).1).1 (denX l) = l) : parseX l = ((decT (cutL l).1).1, denX l, 0) := by
  unfold parseX
  rw [if_pos h]
theorem yparse_any (s : ByteArray) (w : World) (hlim : s.size ≤ 140737488355328) (ht : Pow w) :
    Calls Tryd.prog 9 #[.string s] w fun e w' => e = .returned (trip (parseT s.data.toList)) ∧ Below w.heap.size w w' := by
  rw [← both_parse]
  have el : s.data.toList.length = s.size := by simp
  obtain ⟨a1, a2, a3, a4, a5, a6⟩ := cut_at s.data.toList
  obtain ⟨l1, l2⟩ := cut_len s.data.toList
  have HD1 : Hid (∀ w, Calls Tryd.prog 19 #[.string (s.extract 0 (cutL s.data.toList).1.length)] w fun e w' => e = .returned (.tuple #[.int .i64 (decT (cutL s.data.toList).1).1, .bool (decT (cutL s.data.toList).1).2]) ∧ Below w.heap.size w w') := hideR fun w => by
    rw [take_bytes s _ (by omega), ← a2]
    exact dec_any _ w (by omega)
  have HD2 : Hid ((cutL s.data.toList).1.length < s.size → ∀ w, Calls Tryd.prog 19 #[.string (s.extract ((cutL s.data.toList).1.length + 1) s.size)] w fun e w' => e = .returned (.tuple #[.int .i64 (decT (cutL s.data.toList).2.1).1, .bool (decT (cutL s.data.toList).2.1).2]) ∧ Below w.heap.size w w') := hideR fun h w => by
    rw [drop_bytes s, ← a4 (by omega)]
    exact dec_any _ w (by omega)
  have i1 := dec_i64 (cutL s.data.toList).1
  have HR : ∀ d, I64 d → AskY (decT (cutL s.data.toList).1).1 d (rightR (decT (cutL s.data.toList).1).1 d) := fun d hd => askY _ d i1 hd
  have HP : ∀ d, I64 d → Hid (∀ w', Below w.heap.size w w' → Calls Tryd.prog 10 #[rv (decT (cutL s.data.toList).1).1 d] w' fun e w'' => e = .returned (.string ⟨(printR (decT (cutL s.data.toList).1).1 d).toArray⟩) ∧ Below w'.heap.size w' w'') := fun d hd => hideR fun w' hb => yprintT _ d w' i1 hd (pow_later ht hb)
  have ne : ∀ k (h : k < s.size), s.data.toList[k]? ≠ some 47 → ((s[k].toNat : Int) == 47) = false := fun k h q => by
    have : ¬ s[k].toNat = 47 := fun e => q (by
      rw [get_of s k h]
      congr 1
      apply UInt8.toNat_inj.1
      rw [e]
      rfl)
    simp
    omega
  refine yparse_raw s ⟨(printR (decT (cutL s.data.toList).1).1 (denX s.data.toList)).toArray⟩ (cutL s.data.toList).1.length _ _ _ _ _ w hlim (by omega) (hideR fun k h g => ne k h (a5 k g)) (hideR fun h => ?_) HD1 HD2 (hideR fun g => ?_) (hideR fun g => ?_)
  · have q := a6 (by omega)
    rw [get_of s _ h] at q
    have q := Option.some.inj q
    rw [q]
    rfl
  · have sl : (cutL s.data.toList).2.2 = false := by rw [a3]; simp; omega
    have D : denX s.data.toList = 1 := by simp [denX, sl]
    have O : okX s.data.toList = (decT (cutL s.data.toList).1).2 := by simp [okX, sl]
    rw [D]
    cases o1 : (decT (cutL s.data.toList).1).2
    · exact .inl ⟨rfl, parseX_no (by rw [O, o1]; simp)⟩
    · refine .inr ?_
      have k := HR 1 ⟨by decide, by decide⟩
      cases r : rightR (decT (cutL s.data.toList).1).1 1
      · rw [r] at k
        exact .inl ⟨rfl, k, parseX_no (by rw [D, r]; simp)⟩
      · rw [r] at k
        refine .inr ?_
        by_cases q : printR (decT (cutL s.data.toList).1).1 1 = s.data.toList
        · exact .inr ⟨rfl, k, HP 1 ⟨by decide, by decide⟩, by rw [eq_bytes, decide_eq_true q], by rw [parseX_yes ⟨by rw [O, o1], by rw [D, r], by rw [D, q]⟩, D]⟩
        · exact .inl ⟨rfl, k, HP 1 ⟨by decide, by decide⟩, by rw [eq_bytes, decide_eq_false q], parseX_no (by rw [D]; exact fun h => q h.2.2)⟩
  · have sl : (cutL s.data.toList).2.2 = true := by rw [a3]; simp; omega
    have D : denX s.data.toList = (decT (cutL s.data.toList).2.1).1 := by simp [denX, sl]
    have O : okX s.data.toList = ((decT (cutL s.data.toList).1).2 && (decT (cutL s.data.toList).2.1).2) := by simp [okX, sl]
    have i2 := dec_i64 (cutL s.data.toList).2.1
    rw [D]
    cases o1 : (decT (cutL s.data.toList).1).2
    · exact .inl ⟨rfl, parseX_no (by rw [O, o1]; simp)⟩
    · refine .inr ?_
      cases o2 : (decT (cutL s.data.toList).2.1).2
      · exact .inl ⟨rfl, rfl, parseX_no (by rw [O, o2]; simp)⟩
      · refine .inr ?_
        have k := HR _ i2
        cases r : rightR (decT (cutL s.data.toList).1).1 (decT (cutL s.data.toList).2.1).1
        · rw [r] at k
          exact .inl ⟨rfl, rfl, k, parseX_no (by rw [D, r]; simp)⟩
        · rw [r] at k
          refine .inr ?_
          by_cases q : printR (decT (cutL s.data.toList).1).1 (decT (cutL s.data.toList).2.1).1 = s.data.toList
          · exact .inr ⟨rfl, rfl, k, HP _ i2, by rw [eq_bytes, decide_eq_true q], by rw [parseX_yes ⟨by rw [O, o1, o2]; rfl, by rw [D, r], by rw [D, q]⟩, D]⟩
          · exact .inl ⟨rfl, rfl, k, HP _ i2, by rw [eq_bytes, decide_eq_false q], parseX_no (by rw [D]; exact fun h => q h.2.2)⟩
end Go.Proofs.YtmpdicjjaoeblaaDoor
