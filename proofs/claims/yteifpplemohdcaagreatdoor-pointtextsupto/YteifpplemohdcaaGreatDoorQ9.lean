/-
  Plain laws on decimal numerals: what strconv writes for a whole number of 64 bits is read back as that number, and no other text is; so a text is read just if it is the numeral of a number.
-/
import Derived.Lib.ItoaMem
import Derived.Lib.ParseIntBTie
import Derived.Test.YteifpplemohdcaaGreatDoorSb
import Derived.Test.YteifpplemohdcaaGreatDoorQ1
import Derived.Lib.Bytealg
import Derived.Test.YteifpplemohdcaaGreatDoorQ8
import Derived.WalkSpells
import Derived.Lib.IndexBytes
namespace Go.Proofs.YteifpplemohdcaaGreatDoor
open Go.Lib

def isDig (c : UInt8) : Prop := 48 ≤ c.toNat ∧ c.toNat ≤ 57
def dval (acc : Nat) (l : List UInt8) : Nat := l.foldl (fun a c => a * 10 + (c.toNat - 48)) acc
theorem dval_cons (acc : Nat) (c : UInt8) (l : List UInt8) : dval acc (c :: l) = dval (acc * 10 + (c.toNat - 48)) l := by unfold dval; rw [List.foldl_cons]
theorem dval_snoc (acc : Nat) (c : UInt8) (l : List UInt8) : dval acc (l ++ [c]) = dval acc l * 10 + (c.toNat - 48) := by simp [dval]
theorem dval_ge (l : List UInt8) : ∀ (acc : Nat), acc ≤ dval acc l := by
  induction l with
  | nil => intro acc; exact Nat.le_refl _
  | cons c l ih =>
    intro acc
    rw [dval_cons]
    have := ih (acc * 10 + (c.toNat - 48))
    omega

theorem dig_of (d : Nat) (h : d < 10) : (UInt8.ofNat (48 + d)).toNat = 48 + d := by
  rw [UInt8.toNat_ofNat']
  omega
theorem digits_good : ∀ (n u : Nat), u ≤ n → (∀ c ∈ decDigits u, isDig c) ∧ dval 0 (decDigits u) = u ∧ decDigits u ≠ []
  | 0, u, h => by
    obtain rfl : u = 0 := by omega
    rw [decDigits_one (by omega)]
    refine ⟨fun c hc => ?_, by decide, by simp⟩
    obtain rfl : c = UInt8.ofNat (48 + 0) := by simpa using hc
    exact ⟨by decide, by decide⟩
  | n + 1, u, h => by
    by_cases hu : u < 10
    · rw [decDigits_one hu]
      have e := dig_of u hu
      refine ⟨fun c hc => ?_, ?_, by simp⟩
      · obtain rfl : c = UInt8.ofNat (48 + u) := by simpa using hc
        exact ⟨by omega, by omega⟩
      · rw [dval_cons, e]
        simp [dval]
    · have ih := digits_good n (u / 10) (by omega)
      have e : decDigits u = decDigits (u / 10) ++ [UInt8.ofNat (48 + u % 10)] := by rw [decDigits, dif_neg hu]
      have ed := dig_of (u % 10) (by omega)
      rw [e]
      refine ⟨fun c hc => ?_, ?_, by simp⟩
      · rcases List.mem_append.1 hc with h1 | h1
        · exact ih.1 c h1
        · obtain rfl : c = UInt8.ofNat (48 + u % 10) := by simpa using h1
          exact ⟨by omega, by omega⟩
      · rw [dval_snoc, ih.2.1, ed]
        omega
theorem digits_all (u : Nat) : ∀ c ∈ decDigits u, isDig c := (digits_good u u (Nat.le_refl _)).1
theorem digits_val (u : Nat) : dval 0 (decDigits u) = u := (digits_good u u (Nat.le_refl _)).2.1
theorem digits_ne (u : Nat) : decDigits u ≠ [] := (digits_good u u (Nat.le_refl _)).2.2

theorem pu_ok (M : Nat) (hM : M ≤ 18446744073709551615) : ∀ (l : List UInt8) (acc : Nat), (∀ c ∈ l, isDig c) → dval acc l ≤ M → parseUintM M acc l = .ok (dval acc l)
  | [], acc, _, _ => rfl
  | c :: l, acc, hd, hl => by
    have hc : 48 ≤ c.toNat ∧ c.toNat ≤ 57 := hd c (by simp)
    rw [dval_cons] at hl ⊢
    have hg := dval_ge l (acc * 10 + (c.toNat - 48))
    unfold parseUintM
    rw [if_pos hc, if_neg (by omega), if_neg (by omega)]
    exact pu_ok M hM l _ (fun x hx => hd x (by simp [hx])) hl
theorem pub_digits (u : Nat) (h : u ≤ 18446744073709551615) : parseUintB 64 (decDigits u) = .ok u := by
  unfold parseUintB
  rw [if_neg (digits_ne u)]
  have := pu_ok (2 ^ 64 - 1) (by decide) (decDigits u) 0 (digits_all u) (by rw [digits_val]; omega)
  rw [digits_val] at this
  exact this

/-- Reading a numeral gives the number. -/
theorem parse_itoa (v : Int) (h0 : -9223372036854775808 ≤ v) (h1 : v ≤ 9223372036854775807) : parseIntB 64 (itoa v) = .ok v := by
  by_cases hv : v < 0
  · have e : itoa v = 45 :: decDigits v.natAbs := by unfold itoa; rw [if_pos hv]
    rw [e]
    unfold parseIntB
    have p : parseUintB 64 (if (45 : UInt8).toNat = 43 ∨ (45 : UInt8).toNat = 45 then decDigits v.natAbs else 45 :: decDigits v.natAbs) = .ok v.natAbs := by
      rw [if_pos (by decide)]
      exact pub_digits _ (by omega)
    simp only [p]
    rw [if_neg (by simp), if_neg (by simp; omega), if_pos (by decide)]
    congr 1
    omega
  · have e : itoa v = decDigits v.toNat := by unfold itoa; rw [if_neg hv]
    rw [e]
    obtain ⟨c, r, hcr⟩ : ∃ c r, decDigits v.toNat = c :: r := by
      cases h : decDigits v.toNat with
      | nil => exact absurd h (digits_ne _)
      | cons c r => exact ⟨c, r, rfl⟩
    have hc := digits_all v.toNat c (by rw [hcr]; simp)
    have hp := pub_digits v.toNat (by omega)
    rw [hcr] at hp ⊢
    unfold parseIntB
    have n3 : ¬ (c.toNat = 43 ∨ c.toNat = 45) := by
      have := hc.1
      omega
    have n4 : ¬ c.toNat = 45 := by omega
    simp only [if_neg n3, hp]
    rw [if_neg (by simp; omega), if_neg (by simp [n4]), if_neg n4]
    congr 1
    omega

/-- The number with that text, if there is one that 64 bits can hold. -/
def readV (l : List UInt8) : Option Int :=
  match parseIntB 64 l with
  | .ok v => if itoa v = l then some v else none
  | _ => none
theorem readV_some {l : List UInt8} {v : Int} (h : readV l = some v) : -9223372036854775808 ≤ v ∧ v ≤ 9223372036854775807 ∧ itoa v = l := by
  unfold readV at h
  split at h
  · next u hu =>
    have hb := parseIntB_bounds hu
    split at h
    · next e =>
      cases h
      refine ⟨?_, ?_, e⟩
      · have := hb.1
        simp at this
        omega
      · have := hb.2
        simp at this
        omega
    · cases h
  · cases h
theorem readV_itoa (v : Int) (h0 : -9223372036854775808 ≤ v) (h1 : v ≤ 9223372036854775807) : readV (itoa v) = some v := by
  unfold readV
  rw [parse_itoa v h0 h1]
  simp
end Go.Proofs.YteifpplemohdcaaGreatDoor

/-
  strings.Cut at a slash.
-/
namespace Go.Proofs.YteifpplemohdcaaGreatDoor
open Go.RowKit Go.Shelf
set_option linter.unusedVariables false
/-- What stands ahead of the first slash, what behind it, and whether there is one. -/
def cutL : List UInt8 → List UInt8 × List UInt8 × Bool
  | [] => ([], [], false)
  | c :: l => if c = 47 then ([], l, true) else (c :: (cutL l).1, (cutL l).2.1, (cutL l).2.2)
theorem cut_none {l : List UInt8} (h : ∀ c ∈ l, c ≠ 47) : cutL l = (l, [], false) := by
  induction l with
  | nil => rfl
  | cons c l ih =>
    rw [cutL, if_neg (h c (by simp)), ih (fun x hx => h x (by simp [hx]))]
theorem cut_slash {a b : List UInt8} (h : ∀ c ∈ a, c ≠ 47) : cutL (a ++ [47] ++ b) = (a, b, true) := by
  induction a with
  | nil => simp [cutL]
  | cons c a ih =>
    have e : c :: a ++ [47] ++ b = c :: (a ++ [47] ++ b) := by simp
    rw [e, cutL, if_neg (h c (by simp)), ih (fun x hx => h x (by simp [hx]))]
theorem cut_index (l : List UInt8) : (Lib.indexByte l 47 = -1 ∧ cutL l = (l, [], false)) ∨ ∃ i : Nat, Lib.indexByte l 47 = i ∧ i < l.length ∧ cutL l = (l.take i, l.drop (i + 1), true) := by
  induction l with
  | nil => exact .inl ⟨rfl, rfl⟩
  | cons c l ih =>
    by_cases h : c = 47
    · subst h
      exact .inr ⟨0, by simp [Lib.indexByte], by simp, by simp [cutL]⟩
    · rcases ih with ⟨h1, h2⟩ | ⟨i, h1, h2, h3⟩
      · exact .inl ⟨by simp [Lib.indexByte, h, h1], by simp [cutL, h, h2]⟩
      · refine .inr ⟨i + 1, ?_, by simp; omega, by simp [cutL, h, h3]⟩
        have : ¬ ((i : Int) = -1) := by omega
        simp [Lib.indexByte, h, h1, this]
set_option maxHeartbeats 1000000 in
theorem scut_no (s : ByteArray) (w : World) (h : Lib.indexByte s.data.toList 47 = -1) :
    Calls Tryz.prog 64 #[.string s, .string ⟨#[47]⟩] w fun e w' => e = .returned (.tuple #[.string s, .string ⟨#[]⟩, .bool false]) ∧ w' = w := by
  have H := Go.Proofs.Tryz.stringslite_Index_one s 47 w
  rw [h] at H
  go_enter Tryz.func64, Tryz.ntmps64
  go_wp2_with fail
  refine H.mono ?_
  rintro e w1 ⟨rfl, rfl⟩
  go_wp2_with fail
  go_ret3
  exact ⟨rfl, rfl⟩
set_option maxHeartbeats 1000000 in
theorem scut_yes (s : ByteArray) (i : Nat) (w : World) (h : Lib.indexByte s.data.toList 47 = i) (hi : i < s.size) (hs : s.size ≤ 281474976710656) :
    Calls Tryz.prog 64 #[.string s, .string ⟨#[47]⟩] w fun e w' => e = .returned (.tuple #[.string (s.extract 0 i), .string (s.extract (i + 1) s.size), .bool true]) ∧ ∃ n, w' = w.drewN n := by
  have H := Go.Proofs.Tryz.stringslite_Index_one s 47 w
  rw [h] at H
  have c1 : (0 : Int) ≤ (i : Int) := by omega
  have c2 : (i : Int) ≤ (s.size : Int) := by omega
  have c3 : (0 : Int) ≤ (i : Int) + 1 := by omega
  have c4 : (i : Int) + 1 ≤ (s.size : Int) := by omega
  have c5 : IntKind.i64.wrap ((i : Int) + 1) = (i : Int) + 1 := by rw [IntKind.wrap_i64]; omega
  go_enter Tryz.func64, Tryz.ntmps64
  go_wp2_with fail
  refine H.mono ?_
  rintro e w1 ⟨rfl, rfl⟩
  go_wp2_with fail
  go_quiet (fail)
  go_wp2_with fail
  go_ret3
  exact ⟨rfl, _, rfl⟩
theorem take_bytes (s : ByteArray) (i : Nat) (hi : i ≤ s.size) : s.extract 0 i = ⟨(s.data.toList.take i).toArray⟩ := by
  apply ByteArray.ext
  apply Array.ext'
  simp [ByteArray.data_extract]
theorem drop_bytes (s : ByteArray) (i : Nat) : s.extract i s.size = ⟨(s.data.toList.drop i).toArray⟩ := by
  apply ByteArray.ext
  have := Lib.extract_to_end s i
  apply Array.ext'
  simpa using this
theorem bytes_self (s : ByteArray) : s = ⟨s.data.toList.toArray⟩ := by cases s; simp
theorem scut_any (s : ByteArray) (w : World) (hs : s.size ≤ 281474976710656) :
    Calls Tryz.prog 64 #[.string s, .string ⟨#[47]⟩] w fun e w' => e = .returned (.tuple #[.string ⟨(cutL s.data.toList).1.toArray⟩, .string ⟨(cutL s.data.toList).2.1.toArray⟩, .bool (cutL s.data.toList).2.2]) ∧ Below w.heap.size w w' := by
  have el : s.data.toList.length = s.size := by simp
  rcases cut_index s.data.toList with ⟨h, e⟩ | ⟨i, h, hi, e⟩
  · rw [e]
    refine (scut_no s w h).mono ?_
    rintro x w' ⟨rfl, rfl⟩
    exact ⟨by rw [← bytes_self], Below.refl _ _⟩
  · rw [e]
    refine (scut_yes s i w h (by omega) hs).mono ?_
    rintro x w' ⟨rfl, n, rfl⟩
    exact ⟨by rw [take_bytes s i (by omega), drop_bytes s (i + 1)], below_drewN (Below.refl _ _) _⟩
theorem cut_any (s : ByteArray) (w : World) (hs : s.size ≤ 281474976710656) :
    Calls Tryz.prog 28 #[.string s, .string ⟨#[47]⟩] w fun e w' => e = .returned (.tuple #[.string ⟨(cutL s.data.toList).1.toArray⟩, .string ⟨(cutL s.data.toList).2.1.toArray⟩, .bool (cutL s.data.toList).2.2]) ∧ Below w.heap.size w w' := by
  have H := scut_any s w hs
  go_enter Tryz.func28, Tryz.ntmps28
  go_wp2_with fail
  refine H.mono ?_
  rintro e w1 ⟨rfl, hb⟩
  go_wp2_with fail
  go_ret3
  exact ⟨rfl, hb⟩
theorem cut_len (l : List UInt8) : (cutL l).1.length ≤ l.length ∧ (cutL l).2.1.length ≤ l.length := by
  induction l with
  | nil => simp [cutL]
  | cons c l ih =>
    unfold cutL
    split
    · simp
    · simp
      omega
end Go.Proofs.YteifpplemohdcaaGreatDoor

/-
  The texts of fractions: what Print writes, and what Parse reads, as plain functions.
-/
namespace Go.Proofs.YteifpplemohdcaaGreatDoor
open Go.RowKit Go.Shelf
set_option linter.unusedVariables false
/-- The text of a fraction. -/
def printR (n d : Int) : List UInt8 := if rightR n d then (if d = 1 then Lib.itoa n else Lib.itoa n ++ [47] ++ Lib.itoa d) else []
theorem itoa_plain (n : Int) : ∀ c ∈ Lib.itoa n, c ≠ 47 := by
  intro c hc e
  subst e
  unfold Lib.itoa at hc
  split at hc
  · rcases List.mem_cons.1 hc with h | h
    · exact absurd h (by decide)
    · have := digits_all _ _ h
      exact absurd this.1 (by decide)
  · have := digits_all _ _ hc
    exact absurd this.1 (by decide)
def readN (l : List UInt8) : Int := (readV l).getD 0
def readS (l : List UInt8) : Bool := (readV l).isSome
theorem readN_itoa (v : Int) (h : I64 v) : readN (Lib.itoa v) = v ∧ readS (Lib.itoa v) = true := by
  have e := readV_itoa v h.1 h.2
  unfold readN readS
  rw [e]
  exact ⟨rfl, rfl⟩
theorem read_i64 (l : List UInt8) : I64 (readN l) := by
  unfold readN
  cases e : readV l with
  | none => exact ⟨by decide, by decide⟩
  | some v => exact ⟨(readV_some e).1, (readV_some e).2.1⟩
/-- The Den that is read. -/
def denOf (l : List UInt8) : Int := if (cutL l).2.2 && readS (cutL l).1 then readN (cutL l).2.1 else 1
def okOf (l : List UInt8) : Bool := if (cutL l).2.2 && readS (cutL l).1 then readS (cutL l).2.1 else readS (cutL l).1
def parseT (l : List UInt8) : Int × Int × Int := if okOf l = true ∧ printR (readN (cutL l).1) (denOf l) = l then (readN (cutL l).1, denOf l, 0) else (0, 0, 7)
theorem parse_back (n d : Int) (hn : I64 n) (hd : I64 d) (r : rightR n d = true) : parseT (printR n d) = (n, d, 0) := by
  have e : printR n d = if d = 1 then Lib.itoa n else Lib.itoa n ++ [47] ++ Lib.itoa d := by simp [printR, r]
  obtain ⟨n1, n2⟩ := readN_itoa n hn
  obtain ⟨d1, d2⟩ := readN_itoa d hd
  by_cases c : d = 1
  · subst c
    rw [if_pos rfl] at e
    have k : cutL (printR n 1) = (Lib.itoa n, [], false) := by rw [e]; exact cut_none (itoa_plain n)
    unfold parseT denOf okOf
    rw [k]
    dsimp only
    simp [n1, n2]
  · rw [if_neg c] at e
    have k : cutL (printR n d) = (Lib.itoa n, Lib.itoa d, true) := by rw [e]; exact cut_slash (itoa_plain n)
    unfold parseT denOf okOf
    rw [k]
    dsimp only
    simp [n1, n2, d1, d2]
theorem parse_says (l : List UInt8) : ((parseT l).2.2 = 0 ∧ printR (parseT l).1 (parseT l).2.1 = l) ∨ parseT l = (0, 0, 7) := by
  unfold parseT
  split
  · rename_i h
    exact .inl ⟨rfl, h.2⟩
  · exact .inr rfl
end Go.Proofs.YteifpplemohdcaaGreatDoor

/-
  The document's Decimal of every text.
-/
namespace Go.Proofs.YteifpplemohdcaaGreatDoor
open Go.RowKit Go.Shelf
set_option linter.unusedVariables false
def isDigB (c : UInt8) : Bool := decide (48 ≤ c.toNat ∧ c.toNat ≤ 57)
/-- The digits so far, and the rest of them. -/
def decU : List UInt8 → Nat → Option Nat
  | [], n => some n
  | c :: l, n => if isDigB c && decide (n ≤ 922337203685477580) then decU l (n * 10 + (c.toNat - 48)) else none
theorem decU_dval : ∀ (l : List UInt8) (n : Nat), (∀ c ∈ l, isDig c) → dval n l ≤ 9223372036854775808 → decU l n = some (dval n l)
  | [], n, _, _ => rfl
  | c :: l, n, hd, hl => by
    have hc := hd c (by simp)
    rw [dval_cons] at hl ⊢
    have g := dval_ge l (n * 10 + (c.toNat - 48))
    have q : (isDigB c && decide (n ≤ 922337203685477580)) = true := by
      obtain ⟨h1, h2⟩ := hc
      simp [isDigB]
      omega
    rw [decU, if_pos q]
    exact decU_dval l _ (fun x hx => hd x (by simp [hx])) hl
/-- What Decimal tells: a number, and whether the text is one. -/
def decP (l : List UInt8) : Int × Bool := if l = [] then (0, false) else match decU l 0 with | none => (0, false) | some n => (IntKind.i64.wrap (n : Int), decide (n < 9223372036854775808))
def decM (l : List UInt8) : Int × Bool := if l = [] then (0, false) else match decU l 0 with | none => (0, false) | some n => (IntKind.i64.wrap (IntKind.u64.wrap (-(n : Int))), decide (n ≤ 9223372036854775808))
def decT (l : List UInt8) : Int × Bool := if l.head? = some 45 then decM (l.drop 1) else decP l
theorem dec_digits (u : Nat) (h : u ≤ 9223372036854775808) : decU (Lib.decDigits u) 0 = some u := by
  have e := decU_dval (Lib.decDigits u) 0 (digits_all u) (by rw [digits_val]; exact h)
  rw [digits_val] at e
  exact e
theorem dec_itoa (v : Int) (h : I64 v) : decT (Lib.itoa v) = (v, true) := by
  unfold decT Lib.itoa
  by_cases hv : v < 0
  · rw [if_pos hv]
    have e : ((45 : UInt8) :: Lib.decDigits v.natAbs).head? = some 45 := rfl
    rw [if_pos e]
    show decM (Lib.decDigits v.natAbs) = _
    unfold decM
    rw [if_neg (digits_ne _), dec_digits v.natAbs (by have := h.1; omega)]
    have w1 : IntKind.i64.wrap (IntKind.u64.wrap (-(v.natAbs : Int))) = v := by
      rw [IntKind.wrap_i64, IntKind.wrap_u64]
      have := h.1
      omega
    have w2 : decide (v.natAbs ≤ 9223372036854775808) = true := by
      have := h.1
      simp
      omega
    simp only [w1, w2]
  · rw [if_neg hv]
    have e : ¬ (Lib.decDigits v.toNat).head? = some 45 := fun q => by
      have m : (45 : UInt8) ∈ Lib.decDigits v.toNat := List.mem_of_mem_head? (by rw [q]; rfl)
      have := digits_all _ _ m
      exact absurd this.1 (by decide)
    rw [if_neg e]
    unfold decP
    rw [if_neg (digits_ne _), dec_digits v.toNat (by have := h.2; omega)]
    have w1 : IntKind.i64.wrap (v.toNat : Int) = v := by
      rw [IntKind.wrap_i64]
      have := h.2
      omega
    have w2 : decide (v.toNat < 9223372036854775808) = true := by
      have := h.2
      simp
      omega
    simp only [w1, w2]
theorem dec_i64 (l : List UInt8) : I64 (decT l).1 := by
  have k : ∀ x : Int, I64 (IntKind.i64.wrap x) := fun x => by rw [IntKind.wrap_i64]; omega
  unfold decT decM decP
  split
  · split
    · exact ⟨by decide, by decide⟩
    · split
      · exact ⟨by decide, by decide⟩
      · exact k _
  · split
    · exact ⟨by decide, by decide⟩
    · split
      · exact ⟨by decide, by decide⟩
      · exact k _
/-- What the document's Parse tells. -/
def denX (l : List UInt8) : Int := if (cutL l).2.2 then (decT (cutL l).2.1).1 else 1
def okX (l : List UInt8) : Bool := (decT (cutL l).1).2 && (if (cutL l).2.2 then (decT (cutL l).2.1).2 else true)
def parseX (l : List UInt8) : Int × Int × Int := if okX l = true ∧ rightR (decT (cutL l).1).1 (denX l) = true ∧ printR (decT (cutL l).1).1 (denX l) = l then ((decT (cutL l).1).1, denX l, 0) else (0, 0, 7)
theorem den_i64 (l : List UInt8) : I64 (denX l) := by
  unfold denX
  split
  · exact dec_i64 _
  · exact ⟨by decide, by decide⟩
theorem parse_i64 (l : List UInt8) : I64 (parseT l).1 ∧ I64 (parseT l).2.1 := by
  unfold parseT
  split
  · refine ⟨read_i64 _, ?_⟩
    show I64 (denOf l)
    unfold denOf
    split
    · exact read_i64 _
    · exact ⟨by decide, by decide⟩
  · exact ⟨⟨by decide, by decide⟩, by decide, by decide⟩
theorem read_none : readS [] = false := by
  unfold readS
  cases e : readV [] with
  | none => rfl
  | some v =>
    have h := (readV_some e).2.2
    unfold Lib.itoa at h
    split at h
    · cases h
    · exact absurd h (digits_ne _)
theorem both_parse (l : List UInt8) : parseX l = parseT l := by
  by_cases c : parseT l = (0, 0, 7)
  · rw [c]
    unfold parseX
    split
    · rename_i h
      obtain ⟨-, r, p⟩ := h
      have b := parse_back _ _ (dec_i64 (cutL l).1) (den_i64 l) r
      rw [p, c] at b
      injection b with _ b
      injection b with _ b
      exact absurd b (by decide)
    · rfl
  · rcases parse_says l with ⟨h, p⟩ | h
    · obtain ⟨i1, i2⟩ := parse_i64 l
      have ok : okOf l = true := by
        unfold parseT at c
        split at c
        · rename_i q; exact q.1
        · exact absurd rfl c
      have r : rightR (parseT l).1 (parseT l).2.1 = true := by
        cases r : rightR (parseT l).1 (parseT l).2.1
        · have e : printR (parseT l).1 (parseT l).2.1 = [] := by simp [printR, r]
          rw [p] at e
          subst e
          have : okOf [] = false := by simp [okOf, cutL, read_none]
          rw [this] at ok
          cases ok
        · rfl
      generalize hx : (parseT l).1 = x at *
      generalize hy : (parseT l).2.1 = y at *
      have et : parseT l = (x, y, 0) := by
        rw [← hx, ← hy, ← h]
      rw [et]
      have e : l = if y = 1 then Lib.itoa x else Lib.itoa x ++ [47] ++ Lib.itoa y := by rw [← p]; simp [printR, r]
      unfold parseX
      by_cases q : y = 1
      · subst q
        rw [if_pos rfl] at e
        have k : cutL l = (Lib.itoa x, [], false) := by rw [e]; exact cut_none (itoa_plain x)
        simp [denX, okX, k, dec_itoa x i1, r, p]
      · rw [if_neg q] at e
        have k : cutL l = (Lib.itoa x, Lib.itoa y, true) := by rw [e]; exact cut_slash (itoa_plain x)
        simp [denX, okX, k, dec_itoa x i1, dec_itoa y i2, r, p]
    · exact absurd h c
end Go.Proofs.YteifpplemohdcaaGreatDoor
