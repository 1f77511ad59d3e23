/-
  The document's number.
-/
import Derived.Test.YtdofnjlnleofjaaDoorLj
namespace Go.Proofs.YtdofnjlnleofjaaDoor
open Go.RowKit
set_option linter.unusedVariables false
abbrev tokX (k : Int) (t : ByteArray) (n a : Int) : Value := .agg #[.int .i64 k, .string t, .int .i64 n, .int .i64 a]
def XAt (wr w : World) : Prop := wr.cell? ⟨w.heap.size, 0, none⟩ = some (.int .i64 0) ∧ wr.cell? ⟨w.heap.size, 1, none⟩ = some (.string ⟨#[]⟩) ∧ wr.cell? ⟨w.heap.size, 2, none⟩ = some (.int .i64 0) ∧ wr.cell? ⟨w.heap.size, 3, none⟩ = some (.int .i64 0) ∧ wr.frozen? ⟨w.heap.size, 0, none⟩ = false ∧ wr.frozen? ⟨w.heap.size, 1, none⟩ = false ∧ wr.frozen? ⟨w.heap.size, 2, none⟩ = false ∧ wr.frozen? ⟨w.heap.size, 3, none⟩ = false ∧ Below w.heap.size w wr
theorem x_later {w wr w1 : World} (h : XAt wr w) (hb : Below wr.heap.size wr w1) (hz : w.heap.size < wr.heap.size) : XAt w1 w :=
  ⟨(hb.cell (p := ⟨w.heap.size, 0, none⟩) hz).trans h.1, (hb.cell (p := ⟨w.heap.size, 1, none⟩) hz).trans h.2.1, (hb.cell (p := ⟨w.heap.size, 2, none⟩) hz).trans h.2.2.1, (hb.cell (p := ⟨w.heap.size, 3, none⟩) hz).trans h.2.2.2.1, (hb.frozen (p := ⟨w.heap.size, 0, none⟩) hz).trans h.2.2.2.2.1, (hb.frozen (p := ⟨w.heap.size, 1, none⟩) hz).trans h.2.2.2.2.2.1, (hb.frozen (p := ⟨w.heap.size, 2, none⟩) hz).trans h.2.2.2.2.2.2.1, (hb.frozen (p := ⟨w.heap.size, 3, none⟩) hz).trans h.2.2.2.2.2.2.2.1, h.2.2.2.2.2.2.2.2.trans (hb.mono (by omega))⟩
/-- The value of the digits ahead, held below a limit. -/
def capS : List UInt8 → Nat → Nat
  | [], n => n
  | c :: l, n => if digI c.toNat then capS l (if n ≤ 2147483648 then n * 10 + c.toNat - 48 else n) else n
theorem cap_ge : ∀ (l : List UInt8) (n : Nat), 2147483648 ≤ n → 2147483648 ≤ capS l n
  | [], n, h => h
  | c :: l, n, h => by
    rw [capS]
    split
    · apply cap_ge l
      split
      · rename_i d _
        obtain ⟨d0, d1⟩ := digI_bd d
        omega
      · exact h
    · exact h
theorem cap_num : ∀ (l : List UInt8) (n : Nat), n ≤ 2147483647 → numU (l.take (spanL digI l)) n = if capS l n ≤ 2147483647 then some (capS l n) else none
  | [], n, h => by simp [spanL, numU, capS, h]
  | c :: l, n, h => by
    by_cases d : digI c.toNat = true
    · obtain ⟨d0, d1⟩ := digI_bd d
      have e : spanL digI (c :: l) = spanL digI l + 1 := by rw [spanL, if_pos d]
      rw [e, List.take_succ_cons, numU, capS, if_pos d, if_pos (by omega : n ≤ 2147483648)]
      have e2 : n * 10 + c.toNat - 48 = 10 * n + (c.toNat - 48) := by omega
      rw [e2]
      split
      · rename_i q
        have := cap_ge l (10 * n + (c.toNat - 48)) (by omega)
        rw [if_neg (by omega)]
      · rename_i q
        exact cap_num l _ (by omega)
    · have e : spanL digI (c :: l) = 0 := by rw [spanL, if_neg d]
      rw [e, List.take_zero, numU, capS, if_neg d, if_pos h]
theorem cap_step (s : ByteArray) (k n : Nat) (h : k < s.size) : (digI (s[k].toNat : Int) = true → capS (s.data.toList.drop k) n = capS (s.data.toList.drop (k + 1)) (if n ≤ 2147483648 then n * 10 + s[k].toNat - 48 else n)) ∧ (digI (s[k].toNat : Int) = false → capS (s.data.toList.drop k) n = n) := by
  have d := drop_next s k h
  exact ⟨fun g => by rw [d, capS, if_pos g], fun g => by rw [d, capS, if_neg (by rw [g]; decide)]⟩
theorem dig_drop (s : ByteArray) (k : Nat) (h : k < s.size) : (digI (s[k].toNat : Int) = true → spanL digI (s.data.toList.drop k) = spanL digI (s.data.toList.drop (k + 1)) + 1) ∧ (digI (s[k].toNat : Int) = false → spanL digI (s.data.toList.drop k) = 0) := by
  have d := drop_next s k h
  exact ⟨fun g => by rw [d, spanL, if_pos g], fun g => by rw [d, spanL, if_neg (by rw [g]; decide)]⟩
/-- What the document's number tells, of the digits from a on: m of them, of the value n. -/
def xnumV (s : ByteArray) (a m n : Nat) (z : Bool) : Value :=
  if (z && decide (1 < m)) || decide (2147483647 < n) then .tuple #[tokX 0 ⟨#[]⟩ 0 0, .int .i64 a, .int .i64 91]
  else .tuple #[tokX 2 (s.extract a (a + m)) n a, .int .i64 ((a + m : Nat)), .int .i64 0]
end Go.Proofs.YtdofnjlnleofjaaDoor
