/-
  The texts of fractions: what Print writes, and what Parse reads, as plain functions.
-/
import Derived.Test.YtmpdicjjaoeblaaDoorVi
import Derived.Test.YtmpdicjjaoeblaaDoorDm
import Derived.Test.YtmpdicjjaoeblaaDoorZs
namespace Go.Proofs.YtmpdicjjaoeblaaDoor
open Go.RowKit Go.Shelf
set_option linter.unusedVariables false
/-- The text of a fraction. -/
def printR (n d : Int) : List UInt8 := if rightR n d then (if d = 1 then Lib.itoa n else Lib.itoa n ++ [47] ++ Lib.itoa d) else []
theorem itoa_plain (n : Int) : ∀ c ∈ Lib.itoa n, c ≠ 47 := by
  intro c hc e
  subst e
  unfold Lib.itoa at hc
  split at hc
  · rcases List.mem_cons.1 hc with h | h
    · exact absurd h (by decide)
    · have := digits_all _ _ h
      exact absurd this.1 (by decide)
  · have := digits_all _ _ hc
    exact absurd this.1 (by decide)
def readN (l : List UInt8) : Int := (readV l).getD 0
def readS (l : List UInt8) : Bool := (readV l).isSome
theorem readN_itoa (v : Int) (h : I64 v) : readN (Lib.itoa v) = v ∧ readS (Lib.itoa v) = true := by
  have e := readV_itoa v h.1 h.2
  unfold readN readS
  rw [e]
  exact ⟨rfl, rfl⟩
theorem read_i64 (l : List UInt8) : I64 (readN l) := by
  unfold readN
  cases e : readV l with
  | none => exact ⟨by decide, by decide⟩
  | some v => exact ⟨(readV_some e).1, (readV_some e).2.1⟩
/-- The Den that is read. -/
def denOf (l : List UInt8) : Int := if (cutL l).2.2 && readS (cutL l).1 then readN (cutL l).2.1 else 1
def okOf (l : List UInt8) : Bool := if (cutL l).2.2 && readS (cutL l).1 then readS (cutL l).2.1 else readS (cutL l).1
def parseT (l : List UInt8) : Int × Int × Int := if okOf l = true ∧ printR (readN (cutL l).1) (denOf l) = l then (readN (cutL l).1, denOf l, 0) else (0, 0, 7)
theorem parse_back (n d : Int) (hn : I64 n) (hd : I64 d) (r : rightR n d = true) : parseT (printR n d) = (n, d, 0) := by
  have e : printR n d = if d = 1 then Lib.itoa n else Lib.itoa n ++ [47] ++ Lib.itoa d := by simp [printR, r]
  obtain ⟨n1, n2⟩ := readN_itoa n hn
  obtain ⟨d1, d2⟩ := readN_itoa d hd
  by_cases c : d = 1
  · subst c
    rw [if_pos rfl] at e
    have k : cutL (printR n 1) = (Lib.itoa n, [], false) := by rw [e]; exact cut_none (itoa_plain n)
    unfold parseT denOf okOf
    rw [k]
    dsimp only
    simp [n1, n2]
  · rw [if_neg c] at e
    have k : cutL (printR n d) = (Lib.itoa n, Lib.itoa d, true) := by rw [e]; exact cut_slash (itoa_plain n)
    unfold parseT denOf okOf
    rw [k]
    dsimp only
    simp [n1, n2, d1, d2]
theorem parse_says (l : List UInt8) : ((parseT l).2.2 = 0 ∧ printR (parseT l).1 (parseT l).2.1 = l) ∨ parseT l = (0, 0, 7) := by
  unfold parseT
  split
  · rename_i h
    exact .inl ⟨rfl, h.2⟩
  · exact .inr rfl
end Go.Proofs.YtmpdicjjaoeblaaDoor
