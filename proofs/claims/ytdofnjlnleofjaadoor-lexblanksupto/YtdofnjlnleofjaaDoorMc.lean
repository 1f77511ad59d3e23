/-
  The document's Next: signs.
-/
import Derived.Test.YtdofnjlnleofjaaDoorMb
namespace Go.Proofs.YtdofnjlnleofjaaDoor
open Go.RowKit
set_option linter.unusedVariables false
theorem inL_mem (l : List UInt8) (x : UInt8) : inL l x = l.contains x := by
  unfold inL
  induction l with
  | nil => rfl
  | cons a l ih =>
    have g := Lib.indexByte_ge l x
    rw [List.contains_cons, ← ih]
    rw [Lib.indexByte]
    by_cases c : (a == x) = true
    · have : (x == a) = true := by simp at c ⊢; exact c.symm
      rw [if_pos c, this]
      rfl
    · have c' : (x == a) = false := by simp at c ⊢; exact fun h => c h.symm
      rw [if_neg c, c', Bool.false_or]
      by_cases d : (Lib.indexByte l x == -1) = true
      · rw [if_pos d]
        have : Lib.indexByte l x = -1 := by simpa using d
        rw [this]
      · rw [if_neg d]
        have : ¬ Lib.indexByte l x = -1 := by simpa using d
        rw [Bool.eq_iff_iff]
        simp only [decide_eq_true_eq]
        omega
/-- The signs of two bytes, in the document's order. -/
def twoA : Nat → ByteArray
  | 0 => ⟨#[46, 46]⟩ | 1 => ⟨#[58, 61]⟩ | 2 => ⟨#[45, 62]⟩ | 3 => ⟨#[38, 38]⟩ | 4 => ⟨#[124, 124]⟩ | 5 => ⟨#[33, 61]⟩ | 6 => ⟨#[60, 61]⟩ | 7 => ⟨#[61, 61]⟩ | 8 => ⟨#[62, 61]⟩ | _ => ⟨#[]⟩
def oneA : List UInt8 := [44, 59, 46, 123, 125, 40, 41, 33, 60, 62, 63, 43, 45, 42]
theorem one_or (x : UInt8) : oneA.contains x = (inL lowA x || inL lowB x) := by
  rw [inL_mem, inL_mem, Bool.eq_iff_iff]
  simp [oneA, lowA, lowB]
  constructor
  · intro h
    rcases h with h | h | h | h | h | h | h | h | h | h | h | h | h | h <;> simp [h]
  · intro h
    rcases h with (h | h | h | h | h) | (h | h | h | h | h | h | h | h | h) <;> simp [h]
/-- A sign of two bytes is one by its first byte and its mate. -/
theorem two_of (c d : UInt8) : (∃ i, i < 9 ∧ (twoA i).data.toList = [c, d]) ↔ ((inL lowA c || inL lowC c) = true ∧ ((d.toNat : Int) == mateI c.toNat) = true) := by
  rw [inL_mem, inL_mem]
  simp only [Bool.or_eq_true, List.contains_iff_mem]
  constructor
  · rintro ⟨i, hi, h⟩
    match i, hi, h with
    | 0, _, h => injection h with a b; injection b with b _; subst a; subst b; decide
    | 1, _, h => injection h with a b; injection b with b _; subst a; subst b; decide
    | 2, _, h => injection h with a b; injection b with b _; subst a; subst b; decide
    | 3, _, h => injection h with a b; injection b with b _; subst a; subst b; decide
    | 4, _, h => injection h with a b; injection b with b _; subst a; subst b; decide
    | 5, _, h => injection h with a b; injection b with b _; subst a; subst b; decide
    | 6, _, h => injection h with a b; injection b with b _; subst a; subst b; decide
    | 7, _, h => injection h with a b; injection b with b _; subst a; subst b; decide
    | 8, _, h => injection h with a b; injection b with b _; subst a; subst b; decide
  · rintro ⟨h, g⟩
    have dd : ∀ n : UInt8, ((d.toNat : Int) == (n.toNat : Int)) = true → d = n := by
      intro n q
      have : (d.toNat : Int) = n.toNat := by simpa using q
      exact UInt8.toNat_inj.1 (by omega)
    simp only [lowA, lowC, List.mem_cons, List.not_mem_nil, or_false] at h
    rcases h with (rfl | rfl | rfl | rfl | rfl) | (rfl | rfl | rfl | rfl)
    · exact ⟨0, by omega, by rw [dd 46 g]; rfl⟩
    · exact ⟨2, by omega, by rw [dd 62 g]; rfl⟩
    · exact ⟨5, by omega, by rw [dd 61 g]; rfl⟩
    · exact ⟨6, by omega, by rw [dd 61 g]; rfl⟩
    · exact ⟨8, by omega, by rw [dd 61 g]; rfl⟩
    · exact ⟨1, by omega, by rw [dd 61 g]; rfl⟩
    · exact ⟨7, by omega, by rw [dd 61 g]; rfl⟩
    · exact ⟨3, by omega, by rw [dd 38 g]; rfl⟩
    · exact ⟨4, by omega, by rw [dd 124 g]; rfl⟩
theorem low_apart (c : UInt8) : (inL lowB c = true → inL lowA c = false ∧ inL lowC c = false) ∧ (inL lowA c = true → inL lowC c = false) := by
  rw [inL_mem, inL_mem, inL_mem]
  simp only [List.contains_iff_mem]
  refine ⟨fun h => ?_, fun h => ?_⟩
  · simp only [lowB, List.mem_cons, List.not_mem_nil, or_false] at h
    rcases h with rfl | rfl | rfl | rfl | rfl | rfl | rfl | rfl | rfl <;> decide
  · simp only [lowA, List.mem_cons, List.not_mem_nil, or_false] at h
    rcases h with rfl | rfl | rfl | rfl | rfl <;> decide
theorem first_sign (c : UInt8) (l : List UInt8) (hl : lttI c.toNat = false) (hd : digI c.toNat = false) :
    firstM (c :: l) = if ((inL lowA c || inL lowC c) && pairL (c :: l)) = true then (0, 3, 2, 0) else if oneA.contains c = true then (0, 3, 1, 0) else (90, 0, 0, 0) := by
  rw [firstM, if_neg (by rw [hl]; decide), if_neg (by rw [hd]; decide), one_or]
  have q := low_apart c
  cases a : inL lowA c
  · cases b : inL lowB c
    · cases d : inL lowC c
      · simp
      · cases pairL (c :: l) <;> simp
    · rw [(q.1 b).2]
      simp
  · cases pairL (c :: l) <;> simp
end Go.Proofs.YtdofnjlnleofjaaDoor
