/-
  Plain laws on decimal numerals.
-/
import Derived.Lib.ItoaMem
namespace Go.Proofs.YtmnhbokiibaopaaDoor
open Go.Lib

def isDig (c : UInt8) : Prop := 48 ≤ c.toNat ∧ c.toNat ≤ 57
def dval (acc : Nat) (l : List UInt8) : Nat := l.foldl (fun a c => a * 10 + (c.toNat - 48)) acc
theorem dval_cons (acc : Nat) (c : UInt8) (l : List UInt8) : dval acc (c :: l) = dval (acc * 10 + (c.toNat - 48)) l := by unfold dval; rw [List.foldl_cons]
theorem dval_snoc (acc : Nat) (c : UInt8) (l : List UInt8) : dval acc (l ++ [c]) = dval acc l * 10 + (c.toNat - 48) := by simp [dval]
theorem dval_ge (l : List UInt8) : ∀ (acc : Nat), acc ≤ dval acc l := by
  induction l with
  | nil => intro acc; exact Nat.le_refl _
  | cons c l ih =>
    intro acc
    rw [dval_cons]
    have := ih (acc * 10 + (c.toNat - 48))
    omega

theorem dig_of (d : Nat) (h : d < 10) : (UInt8.ofNat (48 + d)).toNat = 48 + d := by
  rw [UInt8.toNat_ofNat']
  omega
theorem digits_good : ∀ (n u : Nat), u ≤ n → (∀ c ∈ decDigits u, isDig c) ∧ dval 0 (decDigits u) = u ∧ decDigits u ≠ []
  | 0, u, h => by
    obtain rfl : u = 0 := by omega
    rw [decDigits_one (by omega)]
    refine ⟨fun c hc => ?_, by decide, by simp⟩
    obtain rfl : c = UInt8.ofNat (48 + 0) := by simpa using hc
    exact ⟨by decide, by decide⟩
  | n + 1, u, h => by
    by_cases hu : u < 10
    · rw [decDigits_one hu]
      have e := dig_of u hu
      refine ⟨fun c hc => ?_, ?_, by simp⟩
      · obtain rfl : c = UInt8.ofNat (48 + u) := by simpa using hc
        exact ⟨by omega, by omega⟩
      · rw [dval_cons, e]
        simp [dval]
    · have ih := digits_good n (u / 10) (by omega)
      have e : decDigits u = decDigits (u / 10) ++ [UInt8.ofNat (48 + u % 10)] := by rw [decDigits, dif_neg hu]
      have ed := dig_of (u % 10) (by omega)
      rw [e]
      refine ⟨fun c hc => ?_, ?_, by simp⟩
      · rcases List.mem_append.1 hc with h1 | h1
        · exact ih.1 c h1
        · obtain rfl : c = UInt8.ofNat (48 + u % 10) := by simpa using h1
          exact ⟨by omega, by omega⟩
      · rw [dval_snoc, ih.2.1, ed]
        omega
theorem digits_all (u : Nat) : ∀ c ∈ decDigits u, isDig c := (digits_good u u (Nat.le_refl _)).1
theorem digits_val (u : Nat) : dval 0 (decDigits u) = u := (digits_good u u (Nat.le_refl _)).2.1
theorem digits_ne (u : Nat) : decDigits u ≠ [] := (digits_good u u (Nat.le_refl _)).2.2
end Go.Proofs.YtmnhbokiibaopaaDoor
