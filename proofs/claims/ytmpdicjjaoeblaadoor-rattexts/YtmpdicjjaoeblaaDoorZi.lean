/-
  The document's Decimal of every text.
-/
import Derived.Test.YtmpdicjjaoeblaaDoorZa
import Derived.WalkSpells
import Derived.Lib.IndexBytes
namespace Go.Proofs.YtmpdicjjaoeblaaDoor
open Go.RowKit Go.Shelf
set_option linter.unusedVariables false
def isDigB (c : UInt8) : Bool := decide (48 ≤ c.toNat ∧ c.toNat ≤ 57)
/-- The digits so far, and the rest of them. -/
def decU : List UInt8 → Nat → Option Nat
  | [], n => some n
  | c :: l, n => if isDigB c && decide (n ≤ 922337203685477580) then decU l (n * 10 + (c.toNat - 48)) else none
theorem decU_bd : ∀ (l : List UInt8) (n m : Nat), n ≤ 9223372036854775809 → decU l n = some m → m ≤ 9223372036854775809
  | [], n, m, h, e => by
    injection e with e
    omega
  | c :: l, n, m, h, e => by
    rw [decU] at e
    split at e
    · rename_i q
      simp [isDigB] at q
      exact decU_bd l _ m (by omega) e
    · cases e
theorem decU_dval : ∀ (l : List UInt8) (n : Nat), (∀ c ∈ l, isDig c) → dval n l ≤ 9223372036854775808 → decU l n = some (dval n l)
  | [], n, _, _ => rfl
  | c :: l, n, hd, hl => by
    have hc := hd c (by simp)
    rw [dval_cons] at hl ⊢
    have g := dval_ge l (n * 10 + (c.toNat - 48))
    have q : (isDigB c && decide (n ≤ 922337203685477580)) = true := by
      obtain ⟨h1, h2⟩ := hc
      simp [isDigB]
      omega
    rw [decU, if_pos q]
    exact decU_dval l _ (fun x hx => hd x (by simp [hx])) hl
/-- What Decimal tells: a number, and whether the text is one. -/
def decP (l : List UInt8) : Int × Bool := if l = [] then (0, false) else match decU l 0 with | none => (0, false) | some n => (IntKind.i64.wrap (n : Int), decide (n < 9223372036854775808))
def decM (l : List UInt8) : Int × Bool := if l = [] then (0, false) else match decU l 0 with | none => (0, false) | some n => (IntKind.i64.wrap (IntKind.u64.wrap (-(n : Int))), decide (n ≤ 9223372036854775808))
def decT (l : List UInt8) : Int × Bool := if l.head? = some 45 then decM (l.drop 1) else decP l
theorem dec_digits (u : Nat) (h : u ≤ 9223372036854775808) : decU (Lib.decDigits u) 0 = some u := by
  have e := decU_dval (Lib.decDigits u) 0 (digits_all u) (by rw [digits_val]; exact h)
  rw [digits_val] at e
  exact e
theorem dec_itoa (v : Int) (h : I64 v) : decT (Lib.itoa v) = (v, true) := by
  unfold decT Lib.itoa
  by_cases hv : v < 0
  · rw [if_pos hv]
    have e : ((45 : UInt8) :: Lib.decDigits v.natAbs).head? = some 45 := rfl
    rw [if_pos e]
    show decM (Lib.decDigits v.natAbs) = _
    unfold decM
    rw [if_neg (digits_ne _), dec_digits v.natAbs (by have := h.1; omega)]
    have w1 : IntKind.i64.wrap (IntKind.u64.wrap (-(v.natAbs : Int))) = v := by
      rw [IntKind.wrap_i64, IntKind.wrap_u64]
      have := h.1
      omega
    have w2 : decide (v.natAbs ≤ 9223372036854775808) = true := by
      have := h.1
      simp
      omega
    simp only [w1, w2]
  · rw [if_neg hv]
    have e : ¬ (Lib.decDigits v.toNat).head? = some 45 := fun q => by
      have m : (45 : UInt8) ∈ Lib.decDigits v.toNat := List.mem_of_mem_head? (by rw [q]; rfl)
      have := digits_all _ _ m
      exact absurd this.1 (by decide)
    rw [if_neg e]
    unfold decP
    rw [if_neg (digits_ne _), dec_digits v.toNat (by have := h.2; omega)]
    have w1 : IntKind.i64.wrap (v.toNat : Int) = v := by
      rw [IntKind.wrap_i64]
      have := h.2
      omega
    have w2 : decide (v.toNat < 9223372036854775808) = true := by
      have := h.2
      simp
      omega
    simp only [w1, w2]
theorem dec_i64 (l : List UInt8) : I64 (decT l).1 := by
  have k : ∀ x : Int, I64 (IntKind.i64.wrap x) := fun x => by rw [IntKind.wrap_i64]; omega
  unfold decT decM decP
  split
  · split
    · exact ⟨by decide, by decide⟩
    · split
      · exact ⟨by decide, by decide⟩
      · exact k _
  · split
    · exact ⟨by decide, by decide⟩
    · split
      · exact ⟨by decide, by decide⟩
      · exact k _
/-- What the document's Parse tells. -/
def denX (l : List UInt8) : Int := if (cutL l).2.2 then (decT (cutL l).2.1).1 else 1
def okX (l : List UInt8) : Bool := (decT (cutL l).1).2 && (if (cutL l).2.2 then (decT (cutL l).2.1).2 else true)
def parseX (l : List UInt8) : Int × Int × Int := if okX l = true ∧ rightR (decT (cutL l).1).1 (denX l) = true ∧ printR (decT (cutL l).1).1 (denX l) = l then ((decT (cutL l).1).1, denX l, 0) else (0, 0, 7)
theorem den_i64 (l : List UInt8) : I64 (denX l) := by
  unfold denX
  split
  · exact dec_i64 _
  · exact ⟨by decide, by decide⟩
theorem parse_i64 (l : List UInt8) : I64 (parseT l).1 ∧ I64 (parseT l).2.1 := by
  unfold parseT
  split
  · refine ⟨read_i64 _, ?_⟩
    show I64 (denOf l)
    unfold denOf
    split
    · exact read_i64 _
    · exact ⟨by decide, by decide⟩
  · exact ⟨⟨by decide, by decide⟩, by decide, by decide⟩
theorem read_none : readS [] = false := by
  unfold readS
  cases e : readV [] with
  | none => rfl
  | some v =>
    have h := (readV_some e).2.2
    unfold Lib.itoa at h
    split at h
    · cases h
    · exact absurd h (digits_ne _)
theorem both_parse (l : List UInt8) : parseX l = parseT l := by
  by_cases c : parseT l = (0, 0, 7)
  · rw [c]
    unfold parseX
    split
    · rename_i h
      obtain ⟨-, r, p⟩ := h
      have b := parse_back _ _ (dec_i64 (cutL l).1) (den_i64 l) r
      rw [p, c] at b
      injection b with _ b
      injection b with _ b
      exact absurd b (by decide)
    · rfl
  · rcases parse_says l with ⟨h, p⟩ | h
    · obtain ⟨i1, i2⟩ := parse_i64 l
      have ok : okOf l = true := by
        unfold parseT at c
        split at c
        · rename_i q; exact q.1
        · exact absurd rfl c
      have r : rightR (parseT l).1 (parseT l).2.1 = true := by
        cases r : rightR (parseT l).1 (parseT l).2.1
        · have e : printR (parseT l).1 (parseT l).2.1 = [] := by simp [printR, r]
          rw [p] at e
          subst e
          have : okOf [] = false := by simp [okOf, cutL, read_none]
          rw [this] at ok
          cases ok
        · rfl
      generalize hx : (parseT l).1 = x at *
      generalize hy : (parseT l).2.1 = y at *
      have et : parseT l = (x, y, 0) := by
        rw [← hx, ← hy, ← h]
      rw [et]
      have e : l = if y = 1 then Lib.itoa x else Lib.itoa x ++ [47] ++ Lib.itoa y := by rw [← p]; simp [printR, r]
      unfold parseX
      by_cases q : y = 1
      · subst q
        rw [if_pos rfl] at e
        have k : cutL l = (Lib.itoa x, [], false) := by rw [e]; exact cut_none (itoa_plain x)
        simp [denX, okX, k, dec_itoa x i1, r, p]
      · rw [if_neg q] at e
        have k : cutL l = (Lib.itoa x, Lib.itoa y, true) := by rw [e]; exact cut_slash (itoa_plain x)
        simp [denX, okX, k, dec_itoa x i1, dec_itoa y i2, r, p]
    · exact absurd h c
end Go.Proofs.YtmpdicjjaoeblaaDoor
