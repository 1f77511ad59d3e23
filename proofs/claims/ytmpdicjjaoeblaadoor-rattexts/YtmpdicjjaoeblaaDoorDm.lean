/-
  Plain laws on decimal numerals: what strconv writes for a whole number of 64 bits is read back as that number, and no other text is; so a text is read just if it is the numeral of a number.
-/
import Derived.Lib.ItoaMem
import Derived.Lib.ParseIntBTie
namespace Go.Proofs.YtmpdicjjaoeblaaDoor
open Go.Lib

def isDig (c : UInt8) : Prop := 48 ≤ c.toNat ∧ c.toNat ≤ 57
def dval (acc : Nat) (l : List UInt8) : Nat := l.foldl (fun a c => a * 10 + (c.toNat - 48)) acc
theorem dval_cons (acc : Nat) (c : UInt8) (l : List UInt8) : dval acc (c :: l) = dval (acc * 10 + (c.toNat - 48)) l := by unfold dval; rw [List.foldl_cons]
theorem dval_snoc (acc : Nat) (c : UInt8) (l : List UInt8) : dval acc (l ++ [c]) = dval acc l * 10 + (c.toNat - 48) := by simp [dval]
theorem dval_ge (l : List UInt8) : ∀ (acc : Nat), acc ≤ dval acc l := by
  induction l with
  | nil => intro acc; exact Nat.le_refl _
  | cons c l ih =>
    intro acc
    rw [dval_cons]
    have := ih (acc * 10 + (c.toNat - 48))
    omega

theorem dig_of (d : Nat) (h : d < 10) : (UInt8.ofNat (48 + d)).toNat = 48 + d := by
  rw [UInt8.toNat_ofNat']
  omega
theorem digits_good : ∀ (n u : Nat), u ≤ n → (∀ c ∈ decDigits u, isDig c) ∧ dval 0 (decDigits u) = u ∧ decDigits u ≠ []
  | 0, u, h => by
    obtain rfl : u = 0 := by omega
    rw [decDigits_one (by omega)]
    refine ⟨fun c hc => ?_, by decide, by simp⟩
    obtain rfl : c = UInt8.ofNat (48 + 0) := by simpa using hc
    exact ⟨by decide, by decide⟩
  | n + 1, u, h => by
    by_cases hu : u < 10
    · rw [decDigits_one hu]
      have e := dig_of u hu
      refine ⟨fun c hc => ?_, ?_, by simp⟩
      · obtain rfl : c = UInt8.ofNat (48 + u) := by simpa using hc
        exact ⟨by omega, by omega⟩
      · rw [dval_cons, e]
        simp [dval]
    · have ih := digits_good n (u / 10) (by omega)
      have e : decDigits u = decDigits (u / 10) ++ [UInt8.ofNat (48 + u % 10)] := by rw [decDigits, dif_neg hu]
      have ed := dig_of (u % 10) (by omega)
      rw [e]
      refine ⟨fun c hc => ?_, ?_, by simp⟩
      · rcases List.mem_append.1 hc with h1 | h1
        · exact ih.1 c h1
        · obtain rfl : c = UInt8.ofNat (48 + u % 10) := by simpa using h1
          exact ⟨by omega, by omega⟩
      · rw [dval_snoc, ih.2.1, ed]
        omega
theorem digits_all (u : Nat) : ∀ c ∈ decDigits u, isDig c := (digits_good u u (Nat.le_refl _)).1
theorem digits_val (u : Nat) : dval 0 (decDigits u) = u := (digits_good u u (Nat.le_refl _)).2.1
theorem digits_ne (u : Nat) : decDigits u ≠ [] := (digits_good u u (Nat.le_refl _)).2.2

theorem pu_ok (M : Nat) (hM : M ≤ 18446744073709551615) : ∀ (l : List UInt8) (acc : Nat), (∀ c ∈ l, isDig c) → dval acc l ≤ M → parseUintM M acc l = .ok (dval acc l)
  | [], acc, _, _ => rfl
  | c :: l, acc, hd, hl => by
    have hc : 48 ≤ c.toNat ∧ c.toNat ≤ 57 := hd c (by simp)
    rw [dval_cons] at hl ⊢
    have hg := dval_ge l (acc * 10 + (c.toNat - 48))
    unfold parseUintM
    rw [if_pos hc, if_neg (by omega), if_neg (by omega)]
    exact pu_ok M hM l _ (fun x hx => hd x (by simp [hx])) hl
theorem pub_digits (u : Nat) (h : u ≤ 18446744073709551615) : parseUintB 64 (decDigits u) = .ok u := by
  unfold parseUintB
  rw [if_neg (digits_ne u)]
  have := pu_ok (2 ^ 64 - 1) (by decide) (decDigits u) 0 (digits_all u) (by rw [digits_val]; omega)
  rw [digits_val] at this
  exact this

/-- Reading a numeral gives the number. -/
theorem parse_itoa (v : Int) (h0 : -9223372036854775808 ≤ v) (h1 : v ≤ 9223372036854775807) : parseIntB 64 (itoa v) = .ok v := by
  by_cases hv : v < 0
  · have e : itoa v = 45 :: decDigits v.natAbs := by unfold itoa; rw [if_pos hv]
    rw [e]
    unfold parseIntB
    have p : parseUintB 64 (if (45 : UInt8).toNat = 43 ∨ (45 : UInt8).toNat = 45 then decDigits v.natAbs else 45 :: decDigits v.natAbs) = .ok v.natAbs := by
      rw [if_pos (by decide)]
      exact pub_digits _ (by omega)
    simp only [p]
    rw [if_neg (by simp), if_neg (by simp; omega), if_pos (by decide)]
    congr 1
    omega
  · have e : itoa v = decDigits v.toNat := by unfold itoa; rw [if_neg hv]
    rw [e]
    obtain ⟨c, r, hcr⟩ : ∃ c r, decDigits v.toNat = c :: r := by
      cases h : decDigits v.toNat with
      | nil => exact absurd h (digits_ne _)
      | cons c r => exact ⟨c, r, rfl⟩
    have hc := digits_all v.toNat c (by rw [hcr]; simp)
    have hp := pub_digits v.toNat (by omega)
    rw [hcr] at hp ⊢
    unfold parseIntB
    have n3 : ¬ (c.toNat = 43 ∨ c.toNat = 45) := by
      have := hc.1
      omega
    have n4 : ¬ c.toNat = 45 := by omega
    simp only [if_neg n3, hp]
    rw [if_neg (by simp; omega), if_neg (by simp [n4]), if_neg n4]
    congr 1
    omega

theorem itoa_inj (a b : Int) (a0 : -9223372036854775808 ≤ a) (a1 : a ≤ 9223372036854775807) (b0 : -9223372036854775808 ≤ b) (b1 : b ≤ 9223372036854775807) (h : itoa a = itoa b) : a = b := by
  have ha := parse_itoa a a0 a1
  rw [h, parse_itoa b b0 b1] at ha
  cases ha
  rfl
/-- A numeral is not empty, and begins with a minus or a digit. -/
theorem itoa_head (v : Int) : ∃ c r, itoa v = c :: r ∧ (c = 45 ∨ isDig c) := by
  unfold itoa
  split
  · exact ⟨45, _, rfl, .inl rfl⟩
  · cases h : decDigits v.toNat with
    | nil => exact absurd h (digits_ne _)
    | cons c r => exact ⟨c, r, rfl, .inr (digits_all v.toNat c (by rw [h]; simp))⟩

/-- The number with that text, if there is one that 64 bits can hold. -/
def readV (l : List UInt8) : Option Int :=
  match parseIntB 64 l with
  | .ok v => if itoa v = l then some v else none
  | _ => none
theorem readV_some {l : List UInt8} {v : Int} (h : readV l = some v) : -9223372036854775808 ≤ v ∧ v ≤ 9223372036854775807 ∧ itoa v = l := by
  unfold readV at h
  split at h
  · next u hu =>
    have hb := parseIntB_bounds hu
    split at h
    · next e =>
      cases h
      refine ⟨?_, ?_, e⟩
      · have := hb.1
        simp at this
        omega
      · have := hb.2
        simp at this
        omega
    · cases h
  · cases h
theorem readV_itoa (v : Int) (h0 : -9223372036854775808 ≤ v) (h1 : v ≤ 9223372036854775807) : readV (itoa v) = some v := by
  unfold readV
  rw [parse_itoa v h0 h1]
  simp
end Go.Proofs.YtmpdicjjaoeblaaDoor
