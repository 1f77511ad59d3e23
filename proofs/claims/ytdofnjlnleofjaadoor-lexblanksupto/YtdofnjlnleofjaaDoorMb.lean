/-
  The document's Next: outside, at the end, numbers, words.
-/
import Derived.Test.YtdofnjlnleofjaaDoorMa
namespace Go.Proofs.YtdofnjlnleofjaaDoor
open Go.RowKit
set_option linter.unusedVariables false
def nextXW (s : ByteArray) (b : Nat) (r : Int × Int × Nat × Int) : Value :=
  if r.1 = 0 then .tuple #[tokX r.2.1 (s.extract b (b + r.2.2.1)) r.2.2.2 b, .int .i64 ((b + r.2.2.1 : Nat)), .int .i64 0]
  else .tuple #[tokX 0 ⟨#[]⟩ 0 0, .int .i64 b, .int .i64 r.1]
def nextXV (s : ByteArray) (a : Nat) : Value := nextXW s (begL s.data.toList a) (tokL s.data.toList a)
theorem dig_not (x : Int) (h : digI x = true) : lttI x = false := by
  obtain ⟨h0, h1⟩ := digI_bd h
  unfold lttI
  simp
  omega
theorem xnum_next (s : ByteArray) (a : Nat) (ha : a < s.size) (hd : digI (s[a].toNat : Int) = true) :
    xnumV s a (spanL digI (s.data.toList.drop a)) (capS (s.data.toList.drop a) 0) ((s[a].toNat : Int) == 48) = nextXW s a (firstM (s.data.toList.drop a)) := by
  have e := drop_next s a ha
  have f : firstM (s.data.toList.drop a) = numM ((s.data.toList.drop a).take (spanL digI (s.data.toList.drop a))) := by
    rw [e, firstM, if_neg (by rw [dig_not _ hd]; decide), if_pos hd]
  have le : spanL digI (s.data.toList.drop a) ≤ (s.data.toList.drop a).length := span_le _ _
  have p : 0 < spanL digI (s.data.toList.drop a) := by rw [e, spanL, if_pos hd]; omega
  have hl : ((s.data.toList.drop a).take (spanL digI (s.data.toList.drop a))).length = spanL digI (s.data.toList.drop a) := by rw [List.length_take]; omega
  have hh : ((s.data.toList.drop a).take (spanL digI (s.data.toList.drop a))).head? = some s[a] := by
    obtain ⟨q, hq⟩ : ∃ q, spanL digI (s.data.toList.drop a) = q + 1 := ⟨_, (Nat.succ_pred_eq_of_pos p).symm⟩
    rw [hq, e, List.take_succ_cons]
    rfl
  have hn := cap_num (s.data.toList.drop a) 0 (by omega)
  rw [f]
  unfold numM xnumV
  rw [hl, hh, hn]
  generalize spanL digI (s.data.toList.drop a) = m at *
  generalize capS (s.data.toList.drop a) 0 = c at *
  by_cases z : ((s[a].toNat : Int) == 48) = true
  · by_cases g : 1 < m
    · rw [if_pos (by simp [z, g]), if_pos ⟨by simp [z], g⟩]
      rfl
    · by_cases b : 2147483647 < c
      · rw [if_pos (by simp [b]), if_neg (by rintro ⟨-, q⟩; exact g q), if_neg (by omega)]
        rfl
      · rw [if_neg (by simp [g, b]), if_neg (by rintro ⟨-, q⟩; exact g q), if_pos (by omega)]
        rfl
  · by_cases b : 2147483647 < c
    · rw [if_pos (by simp [b]), if_neg (by rintro ⟨q, -⟩; simp at q; simp [q] at z), if_neg (by omega)]
      rfl
    · rw [if_neg (by simp at z; simp [b, z]), if_neg (by rintro ⟨q, -⟩; simp at q; simp [q] at z), if_pos (by omega)]
      rfl
theorem cut_at0 (s : ByteArray) (b : Nat) : s.extract b b = ⟨#[]⟩ := by
  apply ByteArray.ext
  simp
theorem wrd_drop (s : ByteArray) (k : Nat) (h : k < s.size) : (wrdI (s[k].toNat : Int) = true → spanL wrdI (s.data.toList.drop k) = spanL wrdI (s.data.toList.drop (k + 1)) + 1) ∧ (wrdI (s[k].toNat : Int) = false → spanL wrdI (s.data.toList.drop k) = 0) := by
  have d := drop_next s k h
  exact ⟨fun g => by rw [d, spanL, if_pos g], fun g => by rw [d, spanL, if_neg (by rw [g]; decide)]⟩
end Go.Proofs.YtdofnjlnleofjaaDoor
