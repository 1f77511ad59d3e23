/-
  Plain laws on decimal numerals: what strconv writes for a whole number of 64 bits is read back as that number, and no other text is; so a text is read just if it is the numeral of a number.
-/
import Derived.Lib.ItoaMem
import Derived.Lib.ParseIntBTie
import Derived.Test.YtdkolgndebkloaaGreatDoorZa
import Derived.WalkSpells
import Derived.Lib.IndexBytes
import Derived.Deep.QuietTactic
import Derived.BigQuiet
import Derived.OpenShut
import Derived.Test.YtdkolgndebkloaaGreatDoorSbz
import Derived.Lib.AtoiErrMem
namespace Go.Proofs.YtdkolgndebkloaaGreatDoor
open Go.Lib

def isDig (c : UInt8) : Prop := 48 ≤ c.toNat ∧ c.toNat ≤ 57
def dval (acc : Nat) (l : List UInt8) : Nat := l.foldl (fun a c => a * 10 + (c.toNat - 48)) acc
theorem dval_cons (acc : Nat) (c : UInt8) (l : List UInt8) : dval acc (c :: l) = dval (acc * 10 + (c.toNat - 48)) l := by unfold dval; rw [List.foldl_cons]
theorem dval_snoc (acc : Nat) (c : UInt8) (l : List UInt8) : dval acc (l ++ [c]) = dval acc l * 10 + (c.toNat - 48) := by simp [dval]
theorem dval_ge (l : List UInt8) : ∀ (acc : Nat), acc ≤ dval acc l := by
  induction l with
  | nil => intro acc; exact Nat.le_refl _
  | cons c l ih =>
    intro acc
    rw [dval_cons]
    have := ih (acc * 10 + (c.toNat - 48))
    omega

theorem dig_of (d : Nat) (h : d < 10) : (UInt8.ofNat (48 + d)).toNat = 48 + d := by
  rw [UInt8.toNat_ofNat']
  omega
theorem digits_good : ∀ (n u : Nat), u ≤ n → (∀ c ∈ decDigits u, isDig c) ∧ dval 0 (decDigits u) = u ∧ decDigits u ≠ []
  | 0, u, h => by
    obtain rfl : u = 0 := by omega
    rw [decDigits_one (by omega)]
    refine ⟨fun c hc => ?_, by decide, by simp⟩
    obtain rfl : c = UInt8.ofNat (48 + 0) := by simpa using hc
    exact ⟨by decide, by decide⟩
  | n + 1, u, h => by
    by_cases hu : u < 10
    · rw [decDigits_one hu]
      have e := dig_of u hu
      refine ⟨fun c hc => ?_, ?_, by simp⟩
      · obtain rfl : c = UInt8.ofNat (48 + u) := by simpa using hc
        exact ⟨by omega, by omega⟩
      · rw [dval_cons, e]
        simp [dval]
    · have ih := digits_good n (u / 10) (by omega)
      have e : decDigits u = decDigits (u / 10) ++ [UInt8.ofNat (48 + u % 10)] := by rw [decDigits, dif_neg hu]
      have ed := dig_of (u % 10) (by omega)
      rw [e]
      refine ⟨fun c hc => ?_, ?_, by simp⟩
      · rcases List.mem_append.1 hc with h1 | h1
        · exact ih.1 c h1
        · obtain rfl : c = UInt8.ofNat (48 + u % 10) := by simpa using h1
          exact ⟨by omega, by omega⟩
      · rw [dval_snoc, ih.2.1, ed]
        omega
theorem digits_all (u : Nat) : ∀ c ∈ decDigits u, isDig c := (digits_good u u (Nat.le_refl _)).1
theorem digits_val (u : Nat) : dval 0 (decDigits u) = u := (digits_good u u (Nat.le_refl _)).2.1
theorem digits_ne (u : Nat) : decDigits u ≠ [] := (digits_good u u (Nat.le_refl _)).2.2

theorem pu_ok (M : Nat) (hM : M ≤ 18446744073709551615) : ∀ (l : List UInt8) (acc : Nat), (∀ c ∈ l, isDig c) → dval acc l ≤ M → parseUintM M acc l = .ok (dval acc l)
  | [], acc, _, _ => rfl
  | c :: l, acc, hd, hl => by
    have hc : 48 ≤ c.toNat ∧ c.toNat ≤ 57 := hd c (by simp)
    rw [dval_cons] at hl ⊢
    have hg := dval_ge l (acc * 10 + (c.toNat - 48))
    unfold parseUintM
    rw [if_pos hc, if_neg (by omega), if_neg (by omega)]
    exact pu_ok M hM l _ (fun x hx => hd x (by simp [hx])) hl
theorem pub_digits (u : Nat) (h : u ≤ 18446744073709551615) : parseUintB 64 (decDigits u) = .ok u := by
  unfold parseUintB
  rw [if_neg (digits_ne u)]
  have := pu_ok (2 ^ 64 - 1) (by decide) (decDigits u) 0 (digits_all u) (by rw [digits_val]; omega)
  rw [digits_val] at this
  exact this

/-- Reading a numeral gives the number. -/
theorem parse_itoa (v : Int) (h0 : -9223372036854775808 ≤ v) (h1 : v ≤ 9223372036854775807) : parseIntB 64 (itoa v) = .ok v := by
  by_cases hv : v < 0
  · have e : itoa v = 45 :: decDigits v.natAbs := by unfold itoa; rw [if_pos hv]
    rw [e]
    unfold parseIntB
    have p : parseUintB 64 (if (45 : UInt8).toNat = 43 ∨ (45 : UInt8).toNat = 45 then decDigits v.natAbs else 45 :: decDigits v.natAbs) = .ok v.natAbs := by
      rw [if_pos (by decide)]
      exact pub_digits _ (by omega)
    simp only [p]
    rw [if_neg (by simp), if_neg (by simp; omega), if_pos (by decide)]
    congr 1
    omega
  · have e : itoa v = decDigits v.toNat := by unfold itoa; rw [if_neg hv]
    rw [e]
    obtain ⟨c, r, hcr⟩ : ∃ c r, decDigits v.toNat = c :: r := by
      cases h : decDigits v.toNat with
      | nil => exact absurd h (digits_ne _)
      | cons c r => exact ⟨c, r, rfl⟩
    have hc := digits_all v.toNat c (by rw [hcr]; simp)
    have hp := pub_digits v.toNat (by omega)
    rw [hcr] at hp ⊢
    unfold parseIntB
    have n3 : ¬ (c.toNat = 43 ∨ c.toNat = 45) := by
      have := hc.1
      omega
    have n4 : ¬ c.toNat = 45 := by omega
    simp only [if_neg n3, hp]
    rw [if_neg (by simp; omega), if_neg (by simp [n4]), if_neg n4]
    congr 1
    omega

theorem itoa_inj (a b : Int) (a0 : -9223372036854775808 ≤ a) (a1 : a ≤ 9223372036854775807) (b0 : -9223372036854775808 ≤ b) (b1 : b ≤ 9223372036854775807) (h : itoa a = itoa b) : a = b := by
  have ha := parse_itoa a a0 a1
  rw [h, parse_itoa b b0 b1] at ha
  cases ha
  rfl
/-- A numeral is not empty, and begins with a minus or a digit. -/
theorem itoa_head (v : Int) : ∃ c r, itoa v = c :: r ∧ (c = 45 ∨ isDig c) := by
  unfold itoa
  split
  · exact ⟨45, _, rfl, .inl rfl⟩
  · cases h : decDigits v.toNat with
    | nil => exact absurd h (digits_ne _)
    | cons c r => exact ⟨c, r, rfl, .inr (digits_all v.toNat c (by rw [h]; simp))⟩

/-- The number with that text, if there is one that 64 bits can hold. -/
def readV (l : List UInt8) : Option Int :=
  match parseIntB 64 l with
  | .ok v => if itoa v = l then some v else none
  | _ => none
theorem readV_some {l : List UInt8} {v : Int} (h : readV l = some v) : -9223372036854775808 ≤ v ∧ v ≤ 9223372036854775807 ∧ itoa v = l := by
  unfold readV at h
  split at h
  · next u hu =>
    have hb := parseIntB_bounds hu
    split at h
    · next e =>
      cases h
      refine ⟨?_, ?_, e⟩
      · have := hb.1
        simp at this
        omega
      · have := hb.2
        simp at this
        omega
    · cases h
  · cases h
theorem readV_itoa (v : Int) (h0 : -9223372036854775808 ≤ v) (h1 : v ≤ 9223372036854775807) : readV (itoa v) = some v := by
  unfold readV
  rw [parse_itoa v h0 h1]
  simp
end Go.Proofs.YtdkolgndebkloaaGreatDoor

/-
  The contract of the document's Number (gnomonref01): for every text it returns the number that its digits spell, with a minus at most, of at most 18 digits, or none; the world stays.
-/
namespace Go.Proofs.YtdkolgndebkloaaGreatDoor
open Go.RowKit
set_option linter.unusedVariables false

def isDigB (c : UInt8) : Bool := decide (48 ≤ c.toNat ∧ c.toNat ≤ 57)
/-- The number that a row of digits spells (of 1 to 18 digits). -/
def bodyV (l : List UInt8) : Option Nat := if l = [] ∨ 18 < l.length then none else if l.all isDigB then some (dval 0 l) else none
def numV (l : List UInt8) : Option Int := if l.head? = some 45 then (bodyV (l.drop 1)).map (fun n : Nat => -(n : Int)) else (bodyV l).map (fun n : Nat => (n : Int))
def numN (l : List UInt8) : Int := (numV l).getD 0
def numS (l : List UInt8) : Bool := (numV l).isSome

theorem tk_snoc (s : ByteArray) (k : Nat) (h : k < s.size) : s.data.toList.take (k + 1) = s.data.toList.take k ++ [s[k]] := by
  rw [List.take_succ_eq_append_getElem (by simpa using h)]; rfl
theorem len_of (s : ByteArray) : s.data.toList.length = s.size := by simp
theorem dval_lt (l : List UInt8) (h : l.all isDigB = true) : dval 0 l < 10 ^ l.length := by
  have key : ∀ (l : List UInt8) (acc : Nat), l.all isDigB = true → dval acc l < (acc + 1) * 10 ^ l.length := by
    intro l
    induction l with
    | nil => intro acc _; simp [dval]
    | cons c l ih =>
      intro acc hc
      simp only [List.all_cons, Bool.and_eq_true] at hc
      have h1 : 48 ≤ c.toNat ∧ c.toNat ≤ 57 := by simpa [isDigB] using hc.1
      have := ih (acc * 10 + (c.toNat - 48)) hc.2
      rw [dval_cons, List.length_cons, Nat.pow_succ]
      have h2 : (acc * 10 + (c.toNat - 48) + 1) * 10 ^ l.length ≤ ((acc + 1) * 10) * 10 ^ l.length := Nat.mul_le_mul_right _ (by omega)
      have h3 : (acc + 1) * 10 * 10 ^ l.length = (acc + 1) * (10 ^ l.length * 10) := by rw [Nat.mul_assoc, Nat.mul_comm 10]
      omega
  have := key l 0 h
  simpa using this
theorem bodyV_lt {l : List UInt8} {n : Nat} (h : bodyV l = some n) : n < 1000000000000000000 := by
  unfold bodyV at h
  split at h
  · cases h
  · next hl =>
    split at h
    · next ha =>
      cases h
      have h1 := dval_lt l ha
      have h2 : 10 ^ l.length ≤ 10 ^ 18 := Nat.pow_le_pow_right (by omega) (by omega)
      have h3 : (10 : Nat) ^ 18 = 1000000000000000000 := by decide
      omega
    · cases h
theorem ret_num {a b : Int} {c d : Bool} (h : a = b) (g : c = d) : Ending.returned (.tuple #[.int .i64 a, .bool c]) = .returned (.tuple #[.int .i64 b, .bool d]) := by rw [h, g]

theorem head_of (s : ByteArray) (hp : 0 < s.size) : s.data.toList.head? = some s[0] := by
  rw [List.head?_eq_getElem?, List.getElem?_eq_getElem (by simpa using hp)]; rfl
theorem drop_of (s : ByteArray) (k : Nat) : (s.extract k s.size).data.toList = s.data.toList.drop k := Lib.extract_to_end s k

set_option maxHeartbeats 1000000 in
theorem number_pos (s : ByteArray) (w : World) (hs : s.size ≤ 18) (hp : 0 < s.size) (h0 : ((s[0].toNat : Int) == 45) = false) :
    Calls Tryz.prog 74 #[.string s] w fun e w' => e = .returned (.tuple #[.int .i64 (numN s.data.toList), .bool (numS s.data.toList)]) ∧ w' = w := by
  have hne : ¬ s = ByteArray.empty := by rintro rfl; simp at hp
  have h1 : ((s.size : Int) == 0) = false := by simp; omega
  have hv : numV s.data.toList = (bodyV s.data.toList).map (fun n : Nat => (n : Int)) := by
    unfold numV
    rw [head_of s hp, if_neg]
    intro e
    have e : s[0] = 45 := Option.some.inj e
    rw [e] at h0
    simp at h0
  have hbv : bodyV s.data.toList = if s.data.toList.all isDigB then some (dval 0 s.data.toList) else none := by
    unfold bodyV
    rw [if_neg]
    rw [len_of]
    rintro (e | e)
    · have := len_of s
      rw [e] at this
      simp at this
      omega
    · omega
  have HV : Hid (numV s.data.toList = (bodyV s.data.toList).map (fun n : Nat => (n : Int))) := hv
  have HB : Hid (bodyV s.data.toList = if s.data.toList.all isDigB then some (dval 0 s.data.toList) else none) := hbv
  clear hv hbv
  go_enter Tryz.func74, Tryz.ntmps74
  go_wp2_with fail
  go_loop [5, 6] (fun n i => ∃ k : Nat, k ≤ s.size ∧ i = .int .i64 k ∧ ∃ u : Int, n = .int .i64 u ∧ Hid (((dval 0 (s.data.toList.take k) : Nat) : Int) = u ∧ (s.data.toList.take k).all isDigB = true)) (fun _ i => s.size - (intOf i).toNat)
  case atStart => exact ⟨0, Nat.zero_le _, rfl, 0, rfl, rfl, rfl⟩
  case round =>
    obtain ⟨k, hk, rfl, u, rfl, hd⟩ := hrel
    by_cases hlt : k < s.size
    · have hu : Hid (dval 0 (s.data.toList.take (k + 1)) = dval 0 (s.data.toList.take k) * 10 + (s[k].toNat - 48)) := by rw [tk_snoc s k hlt]; exact dval_snoc _ _ _
      have ha : Hid ((s.data.toList.take (k + 1)).all isDigB = ((s.data.toList.take k).all isDigB && isDigB s[k])) := by rw [tk_snoc s k hlt]; simp [Hid]
      have hb := dval_lt (s.data.toList.take k) hd.out.2
      have hl : (s.data.toList.take k).length = k := by rw [List.length_take, len_of]; omega
      have hq : (10 : Nat) ^ k ≤ 10 ^ 17 := Nat.pow_le_pow_right (by omega) (by omega)
      have h17 : (10 : Nat) ^ 17 = 100000000000000000 := by decide
      have hu1 : u < 100000000000000000 := by
        have := hd.out.1
        rw [hl] at hb
        omega
      have hu0 : 0 ≤ u := by
        have := hd.out.1
        omega
      have hx : (s[k].toNat : Int) ≤ 255 := by
        have := s[k].toNat_lt
        omega
      have hm : Hid (s[k] ∈ s.data.toList) := by
        show s[k] ∈ s.data.toList
        exact List.getElem_mem (l := s.data.toList) (by simpa using hlt)
      clear hb hl hq h17
      by_cases c1 : 48 ≤ (s[k].toNat : Int)
      · by_cases c2 : (s[k].toNat : Int) ≤ 57
        · have hg : Hid (isDigB s[k] = true) := by show isDigB s[k] = true; simp only [isDigB, decide_eq_true_eq]; omega
          go_wp2_with fail
          go_round
          case rel => exact ⟨k + 1, by omega, by go_num, _, rfl, by rw [hu.out]; have := hd.out.1; omega, by rw [ha.out, hd.out.2, hg.out]; rfl⟩
          case measure => simp [intOf]; omega
        · have c3 : decide ((57 : Int) < (s[k].toNat : Int)) = true := by simp; omega
          have hg : isDigB s[k] = false := by simp only [isDigB, decide_eq_false_iff_not]; omega
          have hall : Hid (s.data.toList.all isDigB = false) := by
            show s.data.toList.all isDigB = false
            rw [List.all_eq_false]
            exact ⟨_, hm.out, by rw [hg]; simp⟩
          clear hg hm hu ha hd
          go_wp2_with fail
          go_ret2
          exact ⟨ret_num (by unfold numN; rw [HV.out, HB.out, hall.out]; rfl) (by unfold numS; rw [HV.out, HB.out, hall.out]; rfl), rfl⟩
      · have c1' : (s[k].toNat : Int) < 48 := by omega
        have hg : isDigB s[k] = false := by simp only [isDigB, decide_eq_false_iff_not]; omega
        have hall : Hid (s.data.toList.all isDigB = false) := by
          show s.data.toList.all isDigB = false
          rw [List.all_eq_false]
          exact ⟨_, hm.out, by rw [hg]; simp⟩
        clear hg hm hu ha hd c1
        go_wp2_with fail
        go_ret2
        exact ⟨ret_num (by unfold numN; rw [HV.out, HB.out, hall.out]; rfl) (by unfold numS; rw [HV.out, HB.out, hall.out]; rfl), rfl⟩
    · have ek : s.data.toList.take k = s.data.toList := List.take_of_length_le (by rw [len_of]; omega)
      rw [ek] at hd
      clear ek
      have hb := dval_lt s.data.toList hd.out.2
      rw [len_of] at hb
      have hq : (10 : Nat) ^ s.size ≤ 10 ^ 18 := Nat.pow_le_pow_right (by omega) (by omega)
      have h18 : (10 : Nat) ^ 18 = 1000000000000000000 := by decide
      have hu1 : u < 1000000000000000000 := by
        have := hd.out.1
        omega
      have hu0 : 0 ≤ u := by
        have := hd.out.1
        omega
      clear hb hq h18
      go_wp2_with fail
      go_ret2
      exact ⟨ret_num (by unfold numN; rw [HV.out, HB.out, hd.out.2]; exact hd.out.1.symm) (by unfold numS; rw [HV.out, HB.out, hd.out.2]; rfl), rfl⟩

set_option maxHeartbeats 1000000 in
theorem number_neg (s : ByteArray) (w : World) (hs : s.size ≤ 19) (hp : 1 < s.size) (h0 : ((s[0].toNat : Int) == 45) = true) :
    Calls Tryz.prog 74 #[.string s] w fun e w' => e = .returned (.tuple #[.int .i64 (numN s.data.toList), .bool (numS s.data.toList)]) ∧ w' = w := by
  have hne : ¬ s = ByteArray.empty := by rintro rfl; simp at hp
  have h1 : ((s.size : Int) == 0) = false := by simp; omega
  have h2 : (((s.size - 1 : Nat) : Int) == 0) = false := by simp; omega
  have h3 : ¬ s.size - 1 = 0 := by omega
  have h4 : ((s.size - 1 : Nat) : Int) ≤ 18 := by omega
  have hdr := drop_of s 1
  have hsz : (s.extract 1 s.size).size = s.size - 1 := by simp
  have hv : numV s.data.toList = (bodyV (s.extract 1 s.size).data.toList).map (fun n : Nat => -(n : Int)) := by
    unfold numV
    rw [head_of s (by omega), if_pos, hdr]
    have e : (s[0].toNat : Int) = 45 := by simpa using h0
    have e : s[0].toNat = 45 := by omega
    rw [UInt8.toNat_inj.1 (show s[0].toNat = (45 : UInt8).toNat from e)]
  have hbv : bodyV (s.extract 1 s.size).data.toList = if (s.extract 1 s.size).data.toList.all isDigB then some (dval 0 (s.extract 1 s.size).data.toList) else none := by
    unfold bodyV
    rw [if_neg]
    rw [len_of]
    rintro (e | e)
    · have := len_of (s.extract 1 s.size)
      rw [e] at this
      simp at this
      omega
    · omega
  have HV : Hid (numV s.data.toList = (bodyV (s.extract 1 s.size).data.toList).map (fun n : Nat => -(n : Int))) := hv
  have HB : Hid (bodyV (s.extract 1 s.size).data.toList = if (s.extract 1 s.size).data.toList.all isDigB then some (dval 0 (s.extract 1 s.size).data.toList) else none) := hbv
  have HZ : Hid ((s.extract 1 s.size).size = s.size - 1) := hsz
  clear hv hbv hdr hsz
  go_enter Tryz.func74, Tryz.ntmps74
  go_wp2_with fail
  generalize s.extract 1 s.size = t at *
  have hts : t.size ≤ 18 := by have := HZ.out; omega
  clear h0 h1 h2 h3 h4 hs hne
  go_loop [5, 6] (fun n i => ∃ k : Nat, k ≤ t.size ∧ i = .int .i64 k ∧ ∃ u : Int, n = .int .i64 u ∧ Hid (((dval 0 (t.data.toList.take k) : Nat) : Int) = u ∧ (t.data.toList.take k).all isDigB = true)) (fun _ i => t.size - (intOf i).toNat)
  case atStart => exact ⟨0, Nat.zero_le _, rfl, 0, rfl, rfl, rfl⟩
  case round =>
    obtain ⟨k, hk, rfl, u, rfl, hd⟩ := hrel
    by_cases hlt : k < t.size
    · have hu : Hid (dval 0 (t.data.toList.take (k + 1)) = dval 0 (t.data.toList.take k) * 10 + (t[k].toNat - 48)) := by rw [tk_snoc t k hlt]; exact dval_snoc _ _ _
      have ha : Hid ((t.data.toList.take (k + 1)).all isDigB = ((t.data.toList.take k).all isDigB && isDigB t[k])) := by rw [tk_snoc t k hlt]; simp [Hid]
      have hb := dval_lt (t.data.toList.take k) hd.out.2
      have hl : (t.data.toList.take k).length = k := by rw [List.length_take, len_of]; omega
      have hq : (10 : Nat) ^ k ≤ 10 ^ 17 := Nat.pow_le_pow_right (by omega) (by omega)
      have h17 : (10 : Nat) ^ 17 = 100000000000000000 := by decide
      have hu1 : u < 100000000000000000 := by
        have := hd.out.1
        rw [hl] at hb
        omega
      have hu0 : 0 ≤ u := by
        have := hd.out.1
        omega
      have hx : (t[k].toNat : Int) ≤ 255 := by
        have := t[k].toNat_lt
        omega
      have hm : Hid (t[k] ∈ t.data.toList) := by
        show t[k] ∈ t.data.toList
        exact List.getElem_mem (l := t.data.toList) (by simpa using hlt)
      clear hb hl hq h17
      by_cases c1 : 48 ≤ (t[k].toNat : Int)
      · by_cases c2 : (t[k].toNat : Int) ≤ 57
        · have hg : Hid (isDigB t[k] = true) := by show isDigB t[k] = true; simp only [isDigB, decide_eq_true_eq]; omega
          go_wp2_with fail
          go_round
          case rel => exact ⟨k + 1, by omega, by go_num, _, rfl, by rw [hu.out]; have := hd.out.1; omega, by rw [ha.out, hd.out.2, hg.out]; rfl⟩
          case measure => simp [intOf]; omega
        · have c3 : decide ((57 : Int) < (t[k].toNat : Int)) = true := by simp; omega
          have hg : isDigB t[k] = false := by simp only [isDigB, decide_eq_false_iff_not]; omega
          have hall : Hid (t.data.toList.all isDigB = false) := by
            show t.data.toList.all isDigB = false
            rw [List.all_eq_false]
            exact ⟨_, hm.out, by rw [hg]; simp⟩
          clear hg hm hu ha hd
          go_wp2_with fail
          go_ret2
          exact ⟨ret_num (by unfold numN; rw [HV.out, HB.out, hall.out]; rfl) (by unfold numS; rw [HV.out, HB.out, hall.out]; rfl), rfl⟩
      · have c1' : (t[k].toNat : Int) < 48 := by omega
        have hg : isDigB t[k] = false := by simp only [isDigB, decide_eq_false_iff_not]; omega
        have hall : Hid (t.data.toList.all isDigB = false) := by
          show t.data.toList.all isDigB = false
          rw [List.all_eq_false]
          exact ⟨_, hm.out, by rw [hg]; simp⟩
        clear hg hm hu ha hd c1
        go_wp2_with fail
        go_ret2
        exact ⟨ret_num (by unfold numN; rw [HV.out, HB.out, hall.out]; rfl) (by unfold numS; rw [HV.out, HB.out, hall.out]; rfl), rfl⟩
    · have ek : t.data.toList.take k = t.data.toList := List.take_of_length_le (by rw [len_of]; omega)
      rw [ek] at hd
      clear ek
      have hb := dval_lt t.data.toList hd.out.2
      rw [len_of] at hb
      have hq : (10 : Nat) ^ t.size ≤ 10 ^ 18 := Nat.pow_le_pow_right (by omega) (by omega)
      have h18 : (10 : Nat) ^ 18 = 1000000000000000000 := by decide
      have hu1 : u < 1000000000000000000 := by
        have := hd.out.1
        omega
      have hu0 : 0 ≤ u := by
        have := hd.out.1
        omega
      clear hb hq h18
      go_wp2_with fail
      go_ret2
      exact ⟨ret_num (by unfold numN; rw [HV.out, HB.out, hd.out.2]; have := hd.out.1; simp; omega) (by unfold numS; rw [HV.out, HB.out, hd.out.2]; rfl), rfl⟩

theorem number_none (s : ByteArray) (w : World) (hbig : s.size ≤ 9223372036854775807) (h : s.size = 0 ∨ (∃ hp : 0 < s.size, (s[0].toNat : Int) ≠ 45 ∧ 18 < s.size) ∨ (∃ hp : 0 < s.size, (s[0].toNat : Int) = 45 ∧ (s.size = 1 ∨ 19 < s.size))) :
    Calls Tryz.prog 74 #[.string s] w fun e w' => e = .returned (.tuple #[.int .i64 (numN s.data.toList), .bool (numS s.data.toList)]) ∧ w' = w := by
  have hv : numV s.data.toList = none := by
    unfold numV
    rcases h with h | ⟨hp, h0, h⟩ | ⟨hp, h0, h⟩
    · have : s.data.toList = [] := List.length_eq_zero_iff.1 (by rw [len_of]; exact h)
      rw [this]
      rfl
    · rw [head_of s hp, if_neg (by intro e; have e : s[0] = 45 := Option.some.inj e; rw [e] at h0; exact h0 rfl)]
      unfold bodyV
      rw [if_pos (.inr (by rw [len_of]; exact h))]
      rfl
    · have e : s[0].toNat = 45 := by omega
      rw [head_of s hp, if_pos (by rw [UInt8.toNat_inj.1 (show s[0].toNat = (45 : UInt8).toNat from e)])]
      unfold bodyV
      rw [if_pos]
      · rfl
      · rcases h with h | h
        · left
          exact List.length_eq_zero_iff.1 (by rw [List.length_drop, len_of]; omega)
        · right
          rw [List.length_drop, len_of]
          omega
  have e1 : numN s.data.toList = 0 := by unfold numN; rw [hv]; rfl
  have e2 : numS s.data.toList = false := by unfold numS; rw [hv]; rfl
  rw [e1, e2]
  clear e1 e2 hv
  rcases h with h | ⟨hp, h0, h⟩ | ⟨hp, h0, h⟩
  · obtain rfl : s = ByteArray.empty := by
      apply ByteArray.ext
      exact Array.eq_empty_of_size_eq_zero h
    go_enter Tryz.func74, Tryz.ntmps74
    go_wp2_with fail
    go_ret2
    exact ⟨rfl, rfl⟩
  · have hne : ¬ s = ByteArray.empty := by rintro rfl; simp at hp
    have h1 : ((s.size : Int) == 0) = false := by simp; omega
    have h0 : ((s[0].toNat : Int) == 45) = false := by simpa using h0
    go_enter Tryz.func74, Tryz.ntmps74
    go_wp2_with fail
    go_ret2
    exact ⟨rfl, rfl⟩
  · have hne : ¬ s = ByteArray.empty := by rintro rfl; simp at hp
    have h0 : ((s[0].toNat : Int) == 45) = true := by simpa using h0
    rcases h with h | h
    · go_enter Tryz.func74, Tryz.ntmps74
      go_wp2_with fail
      go_ret2
      exact ⟨rfl, rfl⟩
    · have h1 : (((s.size - 1 : Nat) : Int) == 0) = false := by simp; omega
      have h3 : ¬ s.size - 1 = 0 := by omega
      have h4 : (18 : Int) < ((s.size - 1 : Nat) : Int) := by omega
      go_enter Tryz.func74, Tryz.ntmps74
      go_wp2_with fail
      go_ret2
      exact ⟨rfl, rfl⟩

theorem numberR_any (s : ByteArray) (w : World) (hbig : s.size ≤ 9223372036854775807) :
    Calls Tryz.prog 74 #[.string s] w fun e w' => e = .returned (.tuple #[.int .i64 (numN s.data.toList), .bool (numS s.data.toList)]) ∧ w' = w := by
  by_cases hp : 0 < s.size
  · by_cases h0 : (s[0].toNat : Int) = 45
    · by_cases h : s.size = 1 ∨ 19 < s.size
      · exact number_none s w hbig (.inr (.inr ⟨hp, h0, h⟩))
      · exact number_neg s w (by omega) (by omega) (by simpa using h0)
    · by_cases h : 18 < s.size
      · exact number_none s w hbig (.inr (.inl ⟨hp, h0, h⟩))
      · exact number_pos s w (by omega) hp (by simpa using h0)
  · exact number_none s w hbig (.inl (by omega))
end Go.Proofs.YtdkolgndebkloaaGreatDoor

/-
  The contracts of bound.Holds and bound.Not: for every bound and fraction they return what the plain functions below say; nothing that was there turns.
-/
namespace Go.Proofs.YtdkolgndebkloaaGreatDoor
open Go.RowKit
set_option linter.unusedVariables false

/-- Does num / den keep the bound? (Inf: always; else not, if the bound is not right or den is below 1.) -/
def holdsB (b n d : Int) : Bool := decide (b = 2147483647) || (finB b && decide (1 ≤ d) && (if valR b then decide (n ≤ valV b * d) else decide (n < valV b * d)))

theorem floor_neg (n d : Int) (hd : 1 ≤ d) (h : n.tmod d < 0) : n / d = n.tdiv d - 1 ∧ n % d ≠ 0 := by
  have h1 := Int.mul_tdiv_add_tmod n d
  have h2 : -d < n.tmod d := Int.lt_tmod_of_pos n (by omega)
  have h3 := (Int.ediv_emod_unique (a := n) (b := d) (r := n.tmod d + d) (q := n.tdiv d - 1) (by omega)).2 ⟨by rw [Int.mul_sub]; omega, by omega, by omega⟩
  exact ⟨h3.1, by rw [h3.2]; omega⟩
theorem floor_pos (n d : Int) (hd : 1 ≤ d) (h : 0 ≤ n.tmod d) : n / d = n.tdiv d ∧ n % d = n.tmod d := by
  have h1 := Int.mul_tdiv_add_tmod n d
  have h2 : n.tmod d < d := Int.tmod_lt_of_pos n (by omega)
  exact (Int.ediv_emod_unique (a := n) (b := d) (r := n.tmod d) (q := n.tdiv d) (by omega)).2 ⟨by omega, h, h2⟩
theorem lt_floor (v n d : Int) (hd : 1 ≤ d) : n < v * d ↔ n / d < v := (Int.ediv_lt_iff_lt_mul (by omega)).symm
theorem le_floor (v n d : Int) (hd : 1 ≤ d) : n ≤ v * d ↔ (n / d < v ∨ (n / d = v ∧ n % d = 0)) := by
  have h1 := Int.mul_ediv_add_emod n d
  have h2 := Int.emod_nonneg n (show d ≠ 0 by omega)
  constructor
  · intro h
    by_cases e : n = v * d
    · right
      subst e
      exact ⟨Int.mul_ediv_cancel v (by omega), Int.mul_emod_left v d⟩
    · exact .inl ((lt_floor v n d hd).1 (by omega))
  · rintro (h | ⟨h, g⟩)
    · have := (lt_floor v n d hd).2 h
      omega
    · rw [h, g, Int.mul_comm] at h1
      omega

theorem below_drawn (w : World) (n : Nat) : Below w.heap.size w (w.drewN n) := below_drewN (Below.refl _ _) n

def notB (b : Int) : Int := if finB b then ofB (-(valV b)) (!valR b) else 0
def notE (b : Int) : Int := if rightB b then (if finB b then ofE (-(valV b)) else 4) else 7
end Go.Proofs.YtdkolgndebkloaaGreatDoor

/-
  The walk of the law BoundStricter: for every two bounds and fraction it returns true, and nothing that was there has turned; the condition: the library's table of powers of ten lies as its text lays it.
-/
namespace Go.Proofs.YtdkolgndebkloaaGreatDoor
open Go.RowKit
set_option linter.unusedVariables false

theorem below_after {w w1 w2 : World} (h1 : Below w.heap.size w w1) (h2 : Below w1.heap.size w1 w2) : Below w.heap.size w w2 := h1.trans (h2.mono h1.size)
theorem from_below {P : Program} {f : Nat} {args : Array Value} {w w0 : World} {v : Ending} (h : Calls P f args w fun e w' => e = v ∧ Below w.heap.size w w') (hb : Below w0.heap.size w0 w) :
    Calls P f args w fun e w' => e = v ∧ Below w0.heap.size w0 w' :=
  h.mono fun e w' ⟨he, h2⟩ => ⟨he, below_after hb h2⟩

theorem holdsB_fin (b n d : Int) (f : finB b = true) (hd : 1 ≤ d) : holdsB b n d = if valR b then decide (n ≤ valV b * d) else decide (n < valV b * d) := by
  have h : b ≠ 2147483647 := by
    have := (fin_iff b).1 f
    omega
  simp [holdsB, h, f, hd]
theorem holdsB_inf (n d : Int) : holdsB 2147483647 n d = true := by simp [holdsB]
theorem valV_fin (b : Int) (f : finB b = true) : valV b = b / 2 := by simp [valV, f]
theorem valR_fin (b : Int) (f : finB b = true) : valR b = decide (b % 2 = 1) := by simp [valR, f]

theorem stricter (a b n d : Int) (ra : rightB a = true) (rb : rightB b = true) (hd : 1 ≤ d) (hab : a ≤ b) (h : holdsB a n d = true) : holdsB b n d = true := by
  rcases fin_or_inf rb with rfl | fb
  · exact holdsB_inf n d
  · have lb := (fin_iff b).1 fb
    rcases fin_or_inf ra with rfl | fa
    · omega
    · rw [holdsB_fin _ _ _ fa hd, valV_fin a fa, valR_fin a fa] at h
      rw [holdsB_fin _ _ _ fb hd, valV_fin b fb, valR_fin b fb]
      by_cases e : a / 2 = b / 2
      · rw [e] at h
        by_cases x : a % 2 = 1
        · have y : b % 2 = 1 := by omega
          simpa [x, y] using h
        · by_cases y : b % 2 = 1
          · simp [x] at h
            simp [y]
            omega
          · simpa [x, y] using h
      · have l : a / 2 + 1 ≤ b / 2 := by omega
        have m : (a / 2 + 1) * d ≤ b / 2 * d := Int.mul_le_mul_of_nonneg_right l (by omega)
        rw [Int.add_mul, Int.one_mul] at m
        have k : n ≤ a / 2 * d := by
          by_cases x : a % 2 = 1
          · simpa [x] using h
          · simp [x] at h
            omega
        by_cases y : b % 2 = 1
        · simp [y]; omega
        · simp [y]; omega

theorem ofB_in (v : Int) (r : Bool) (h0 : -268435456 ≤ v) (h1 : v ≤ 268435456) : ofB v r = 2 * v + (if r then 1 else 0) := by
  unfold ofB
  rw [if_neg (by omega)]
  cases r <;> simp
theorem ofE_in (v : Int) (h0 : -268435456 ≤ v) (h1 : v ≤ 268435456) : ofE v = 0 := by
  unfold ofE
  rw [if_neg (by omega)]
theorem not_props (a : Int) (f : finB a = true) : notE a = 0 ∧ finB (notB a) = true ∧ valV (notB a) = -(valV a) ∧ valR (notB a) = !valR a := by
  have l := (fin_iff a).1 f
  have v := valV_fin a f
  have r := valR_fin a f
  have r1 := right_of_fin f
  have e1 : notB a = 2 * (-(valV a)) + (if (!valR a) = true then 1 else 0) := by
    simp only [notB, f, if_true]
    exact ofB_in _ _ (by omega) (by omega)
  have fn : finB (notB a) = true := by
    rw [fin_iff, e1]
    split <;> omega
  refine ⟨?_, fn, ?_, ?_⟩
  · simp only [notE, r1, f, if_true]
    exact ofE_in _ (by omega) (by omega)
  · rw [valV_fin _ fn, e1]
    split <;> omega
  · rw [valR_fin _ fn, e1, r]
    by_cases x : a % 2 = 1
    · simp [x]
    · simp [x]
theorem opposite (a n d : Int) (f : finB a = true) (hd : 1 ≤ d) : holdsB (notB a) (-n) d = !holdsB a n d := by
  obtain ⟨_, fn, v, r⟩ := not_props a f
  rw [holdsB_fin _ _ _ fn hd, holdsB_fin _ _ _ f hd, v, r, Int.neg_mul]
  cases valR a
  · simp only [Bool.not_false, if_true, Bool.false_eq_true, if_false, ← decide_not]
    exact decide_eq_decide.2 (by omega)
  · simp only [Bool.not_true, if_true, Bool.false_eq_true, if_false, ← decide_not]
    exact decide_eq_decide.2 (by omega)

end Go.Proofs.YtdkolgndebkloaaGreatDoor

/-
  The walk of the law BoundPlus: for every two bounds and three numbers it returns true, and nothing that was there has turned; the condition: the library's table of powers of ten lies as its text lays it.
-/
namespace Go.Proofs.YtdkolgndebkloaaGreatDoor
open Go.RowKit
set_option linter.unusedVariables false

theorem wrap_small (x : Int) (h0 : -9223372036854775808 ≤ x) (h1 : x ≤ 9223372036854775807) : wrap64 x = x := by unfold wrap64; omega
theorem rem_small (x : Int) : -1152921504606846976 < x.tmod 1152921504606846976 ∧ x.tmod 1152921504606846976 < 1152921504606846976 :=
  ⟨Int.lt_tmod_of_pos x (by decide), Int.tmod_lt_of_pos x (by decide)⟩

/-- The sum of two right bounds: its number and whether it may be reached. -/
theorem sum_two_fin (a b : Int) (fa : finB a = true) (fb : finB b = true) (he : sumE [a, b] = 0) :
    finB (sumB [a, b]) = true ∧ valV (sumB [a, b]) = valV a + valV b ∧ valR (sumB [a, b]) = (valR a && valR b) := by
  have la := (fin_iff a).1 fa
  have lb := (fin_iff b).1 fb
  have va := valV_fin a fa
  have vb := valV_fin b fb
  have bad : sBad [a, b] = false := by simp [sBad, right_of_fin fa, right_of_fin fb]
  have inf : sI [a, b] = false := by simp [sI, fa, fb]
  have tot : sT [a, b] = valV a + valV b := by
    simp only [sT, List.foldl_cons, List.foldl_nil, Int.zero_add]
    rw [wrap_small (valV a) (by omega) (by omega), wrap_small _ (by omega) (by omega)]
  have rea : sR [a, b] = (valR a && valR b) := by simp [sR]
  have e1 : sumB [a, b] = ofB (valV a + valV b) (valR a && valR b) := by simp [sumB, bad, inf, tot, rea]
  have e2 : sumE [a, b] = ofE (valV a + valV b) := by simp [sumE, bad, inf, tot]
  rw [e2] at he
  have hin : -268435456 ≤ valV a + valV b ∧ valV a + valV b ≤ 268435456 := by
    unfold ofE at he
    split at he
    · cases he
    · omega
  have e3 : sumB [a, b] = 2 * (valV a + valV b) + (if (valR a && valR b) = true then 1 else 0) := by rw [e1]; exact ofB_in _ _ hin.1 hin.2
  have f : finB (sumB [a, b]) = true := by
    rw [fin_iff, e3]
    split <;> omega
  refine ⟨f, ?_, ?_⟩
  · rw [valV_fin _ f, e3]
    split <;> omega
  · rw [valR_fin _ f, e3]
    cases valR a && valR b
    · simp
    · simp

theorem sum_two_right (a b : Int) (he : sumE [a, b] = 0) : rightB a = true ∧ rightB b = true := by
  cases h : sBad [a, b]
  · simpa [sBad] using h
  · simp [sumE, h] at he
theorem sum_two_inf (a b : Int) (he : sumE [a, b] = 0) (h : a = 2147483647 ∨ b = 2147483647) : sumB [a, b] = 2147483647 := by
  obtain ⟨ra, rb⟩ := sum_two_right a b he
  have bad : sBad [a, b] = false := by simp [sBad, ra, rb]
  have z : finB 2147483647 = false := by decide
  have inf : sI [a, b] = true := by
    rcases h with rfl | rfl
    · simp [sI, z]
    · simp [sI, z]
  simp [sumB, bad, inf]

/-- P1.7: two differences that keep both have a sum that keeps the sum's bound. -/
theorem plus_keeps (a b x y d : Int) (he : sumE [a, b] = 0) (hd : 1 ≤ d) (ha : holdsB a x d = true) (hb : holdsB b y d = true) : holdsB (sumB [a, b]) (x + y) d = true := by
  obtain ⟨ra, rb⟩ := sum_two_right a b he
  rcases fin_or_inf ra with h | fa
  · rw [sum_two_inf a b he (.inl h)]; exact holdsB_inf _ _
  rcases fin_or_inf rb with h | fb
  · rw [sum_two_inf a b he (.inr h)]; exact holdsB_inf _ _
  obtain ⟨f, v, r⟩ := sum_two_fin a b fa fb he
  rw [holdsB_fin _ _ _ fa hd] at ha
  rw [holdsB_fin _ _ _ fb hd] at hb
  rw [holdsB_fin _ _ _ f hd, v, r, Int.add_mul]
  cases p : valR a <;> cases q : valR b <;> simp [p] at ha <;> simp [q] at hb <;> simp <;> omega

end Go.Proofs.YtdkolgndebkloaaGreatDoor

/-
  The contracts of decimal.Read, bound.Parse, and the document's Print and Parse of bounds: a text is parsed just if it is the text of a right bound, and gives that bound; nothing that was there turns.
-/
namespace Go.Proofs.YtdkolgndebkloaaGreatDoor
open Go.RowKit
set_option linter.unusedVariables false

/-! ### Plain laws -/
theorem digits_len : ∀ (k u : Nat), u < 10 ^ (k + 1) → (Lib.decDigits u).length ≤ k + 1
  | 0, u, h => by rw [Lib.decDigits_one (by simpa using h)]; simp
  | k + 1, u, h => by
    by_cases hu : u < 10
    · rw [Lib.decDigits_one hu]; simp
    · have e : Lib.decDigits u = Lib.decDigits (u / 10) ++ [UInt8.ofNat (48 + u % 10)] := by rw [Lib.decDigits, dif_neg hu]
      have := digits_len k (u / 10) (by rw [Nat.pow_succ] at h; omega)
      rw [e, List.length_append, List.length_singleton]
      omega
theorem digits_allB (u : Nat) : (Lib.decDigits u).all isDigB = true := by
  rw [List.all_eq_true]
  intro c hc
  have h := digits_all u c hc
  simp only [isDigB, decide_eq_true_eq]
  exact h
theorem bodyV_digits (u : Nat) (h : u < 1000000000) : bodyV (Lib.decDigits u) = some u := by
  have hl := digits_len 8 u (by simpa using h)
  unfold bodyV
  rw [if_neg, if_pos (digits_allB u), digits_val]
  rintro (e | e)
  · exact digits_ne u e
  · omega
theorem numV_itoa (v : Int) (h0 : -268435456 ≤ v) (h1 : v ≤ 268435456) : numV (Lib.itoa v) = some v := by
  by_cases hv : v < 0
  · have e : Lib.itoa v = 45 :: Lib.decDigits v.natAbs := by unfold Lib.itoa; rw [if_pos hv]
    rw [e]
    unfold numV
    rw [if_pos (by rfl), List.drop_one, List.tail_cons, bodyV_digits _ (by omega)]
    simp only [Option.map_some]
    congr 1
    omega
  · have e : Lib.itoa v = Lib.decDigits v.toNat := by unfold Lib.itoa; rw [if_neg hv]
    rw [e]
    unfold numV
    rw [if_neg, bodyV_digits _ (by omega)]
    · simp only [Option.map_some]
      congr 1
      omega
    · cases h : Lib.decDigits v.toNat with
      | nil => exact absurd h (digits_ne _)
      | cons c r =>
        have hc := digits_all v.toNat c (by rw [h]; simp)
        intro he
        have he : c = 45 := by simpa using he
        subst he
        exact absurd hc.1 (by decide)

theorem ofB_props (v : Int) (r : Bool) (h : ofE v = 0) : finB (ofB v r) = true ∧ valV (ofB v r) = v ∧ valR (ofB v r) = r := by
  have hin : -268435456 ≤ v ∧ v ≤ 268435456 := by
    unfold ofE at h
    split at h
    · cases h
    · omega
  have e := ofB_in v r hin.1 hin.2
  have f : finB (ofB v r) = true := by
    rw [fin_iff, e]
    split <;> omega
  refine ⟨f, ?_, ?_⟩
  · rw [valV_fin _ f, e]
    split <;> omega
  · rw [valR_fin _ f, e]
    cases r
    · simp
    · simp
theorem ofB_back (c : Int) (f : finB c = true) : ofB (valV c) (valR c) = c ∧ ofE (valV c) = 0 := by
  have l := (fin_iff c).1 f
  have v := valV_fin c f
  have r := valR_fin c f
  refine ⟨?_, ofE_in _ (by omega) (by omega)⟩
  rw [ofB_in _ _ (by omega) (by omega), r, v]
  by_cases x : c % 2 = 1
  · simp [x]; omega
  · simp [x]; omega
theorem printS_fin (c : Int) (f : finB c = true) : printS c = (if valR c then [60, 61] else [60]) ++ Lib.itoa (valV c) := by
  have h : c ≠ 2147483647 := by
    have := (fin_iff c).1 f
    omega
  unfold printS
  rw [if_neg h, if_pos f]
  split <;> rfl
theorem printS_inf : printS 2147483647 = [105, 110, 102] := by simp [printS]
theorem itoa_not_eq (v : Int) (l : List UInt8) : Lib.itoa v ≠ 61 :: l := by
  obtain ⟨c, r, e, h⟩ := itoa_head v
  rw [e]
  intro h2
  have h2 : c = 61 := (List.cons.inj h2).1
  subst h2
  rcases h with h | h
  · cases h
  · exact absurd h.2 (by decide)
theorem valV_range (c : Int) (f : finB c = true) : -268435456 ≤ valV c ∧ valV c ≤ 268435456 := by
  have l := (fin_iff c).1 f
  rw [valV_fin c f]
  omega
theorem print_inj (a b : Int) (ra : rightB a = true) (rb : rightB b = true) (h : printS a = printS b) : a = b := by
  rcases fin_or_inf ra with rfl | fa
  · rcases fin_or_inf rb with rfl | fb
    · rfl
    · rw [printS_inf, printS_fin b fb] at h
      split at h <;> cases h
  · rcases fin_or_inf rb with rfl | fb
    · rw [printS_inf, printS_fin a fa] at h
      split at h <;> cases h
    · rw [printS_fin a fa, printS_fin b fb] at h
      have va := valV_range a fa
      have vb := valV_range b fb
      have key : valR a = valR b ∧ Lib.itoa (valV a) = Lib.itoa (valV b) := by
        cases x : valR a <;> cases y : valR b <;> simp [x, y] at h
        · exact ⟨rfl, h⟩
        · exact absurd h (itoa_not_eq _ _)
        · exact absurd h.symm (itoa_not_eq _ _)
        · exact ⟨rfl, h⟩
      have e := itoa_inj _ _ (by omega) (by omega) (by omega) (by omega) key.2
      rw [← (ofB_back a fa).1, ← (ofB_back b fb).1, e, key.1]

/-- What Parse tells of a text: the right bound with that text, or ErrForm, if there is none. -/
def ParseIs (s : List UInt8) (b e : Int) : Prop := (e = 0 ∧ rightB b = true ∧ printS b = s) ∨ (e = 7 ∧ b = 0 ∧ ∀ c, rightB c = true → printS c ≠ s)
theorem ParseIs.one {s : List UInt8} {b e b' e' : Int} (h : ParseIs s b e) (h' : ParseIs s b' e') : b = b' ∧ e = e' := by
  rcases h with ⟨rfl, r, p⟩ | ⟨rfl, rfl, n⟩
  · rcases h' with ⟨rfl, r', p'⟩ | ⟨rfl, rfl, n'⟩
    · exact ⟨print_inj _ _ r r' (p.trans p'.symm), rfl⟩
    · exact absurd p (n' _ r)
  · rcases h' with ⟨rfl, r', p'⟩ | ⟨rfl, rfl, n'⟩
    · exact absurd p' (n _ r')
    · exact ⟨rfl, rfl⟩

/-! ### What the library's variables hold -/
abbrev Errs (w : World) : Prop := (∃ tp p, w.var? Tryz.prog "strconv.ErrSyntax" = some #[.iface tp p]) ∧ (∃ tp p, w.var? Tryz.prog "strconv.ErrRange" = some #[.iface tp p])
theorem var_later {w w' : World} (hb : Below w.heap.size w w') {n : String} {g : Nat} {cs : Array Value} (hg : Tryz.prog.globalNamed n = some g) (hv : w.var? Tryz.prog n = some cs) : w'.var? Tryz.prog n = some cs := by
  refine var?_below hb hg ?_ hv
  unfold World.var? at hv
  simp only [hg, Option.bind_some] at hv
  cases h : w.heap[g]? with
  | none => rw [h] at hv; cases hv
  | some o => exact (Array.getElem?_eq_some_iff.1 h).1
theorem gSyn : Tryz.prog.globalNamed "strconv.ErrSyntax" = some 2 := by kernel_rfl
theorem gRan : Tryz.prog.globalNamed "strconv.ErrRange" = some 3 := by kernel_rfl
theorem errs_later {w w' : World} (h : Errs w) (hb : Below w.heap.size w w') : Errs w' := by
  obtain ⟨⟨t1, p1, h1⟩, t2, p2, h2⟩ := h
  exact ⟨⟨t1, p1, var_later hb gSyn h1⟩, t2, p2, var_later hb gRan h2⟩

theorem hide1 {p : Prop} (h : p) : Hid p := h
/-! ### decimal.Read -/
def readN (l : List UInt8) : Int := (readV l).getD 0
def readS (l : List UInt8) : Bool := (readV l).isSome
set_option maxHeartbeats 1000000 in
theorem read_any (s : ByteArray) (w : World) (hlim : s.size ≤ 140737488355328) (ht : Pow w) (he : Errs w) :
    Calls Tryz.prog 48 #[.string s] w fun e w' => e = .returned (.tuple #[.int .i64 (readN s.data.toList), .bool (readS s.data.toList)]) ∧ Below w.heap.size w w' := by
  cases h : Lib.parseIntB 64 s.data.toList
  · next v =>
    have hb := Lib.parseIntB_bounds h
    have v0 : -9223372036854775808 ≤ v := by have := hb.1; simp at this; omega
    have v1 : v ≤ 9223372036854775807 := by have := hb.2; simp at this; omega
    have H : Hid (Lib.parseIntB 64 s.data.toList = .ok v) := h
    clear h hb
    by_cases e : Lib.itoa v = s.data.toList
    · have r : readV s.data.toList = some v := by rw [← e]; exact readV_itoa v v0 v1
      have e1 : readN s.data.toList = v := by unfold readN; rw [r]; rfl
      have e2 : readS s.data.toList = true := by unfold readS; rw [r]; rfl
      rw [e1, e2]
      have E : Hid ((⟨(Lib.itoa v).toArray⟩ : ByteArray) = s) := by show (⟨(Lib.itoa v).toArray⟩ : ByteArray) = s; rw [e]
      clear e e1 e2 r
      go_enter Tryz.func48, Tryz.ntmps48
      go_wp2_with fail
      refine (Any.strconv_ParseInt_10_at64_ok Go.Proofs.Tryz.laysC174 s (by omega) v H.out w).mono ?_
      rintro e w1 ⟨rfl, hw⟩
      have h1 : Below w.heap.size w w1 := by
        rcases hw with rfl | ⟨t, rfl⟩
        · exact Below.refl _ _
        · exact Lib.bytesWorld_below _ _ _
      clear hw
      go_wp2_with fail
      refine (Go.Proofs.Tryz.strconv_FormatInt_10 v v0 v1 _ (pow_later ht h1)).mono ?_
      rintro e w2 ⟨rfl, k, os, rfl⟩
      rw [E.out]
      have h2 := below_after h1 (Lib.below_grow _ _ (Nat.le_refl _) k os)
      go_wp2
      go_ret2
      exact ⟨rfl, h2⟩
    · have r : readV s.data.toList = none := by
        unfold readV
        rw [H.out]
        simp only [if_neg e]
      have e1 : readN s.data.toList = 0 := by unfold readN; rw [r]; rfl
      have e2 : readS s.data.toList = false := by unfold readS; rw [r]; rfl
      rw [e1, e2]
      have E : Hid (Lib.itoa v ≠ s.data.toList) := e
      clear e e1 e2 r
      go_enter Tryz.func48, Tryz.ntmps48
      go_wp2_with fail
      refine (Any.strconv_ParseInt_10_at64_ok Go.Proofs.Tryz.laysC174 s (by omega) v H.out w).mono ?_
      rintro e w1 ⟨rfl, hw⟩
      have h1 : Below w.heap.size w w1 := by
        rcases hw with rfl | ⟨t, rfl⟩
        · exact Below.refl _ _
        · exact Lib.bytesWorld_below _ _ _
      clear hw
      go_wp2_with fail
      refine (Go.Proofs.Tryz.strconv_FormatInt_10 v v0 v1 _ (pow_later ht h1)).mono ?_
      rintro e w2 ⟨rfl, k, os, rfl⟩
      have h2 := below_after h1 (Lib.below_grow _ _ (Nat.le_refl _) k os)
      generalize hz : (⟨(Lib.itoa v).toArray⟩ : ByteArray) = z
      have hne : (z.toList == s.toList) = false := by
        have : z.toList ≠ s.toList := by
          rw [ByteArray.toList_eq, ByteArray.toList_eq, ← hz]
          exact E.out
        simpa using this
      clear hz
      go_wp2
      go_ret2
      exact ⟨rfl, h2⟩
  · have r : readV s.data.toList = none := by
      unfold readV
      rw [h]
    have e1 : readN s.data.toList = 0 := by unfold readN; rw [r]; rfl
    have e2 : readS s.data.toList = false := by unfold readS; rw [r]; rfl
    rw [e1, e2]
    have c := fun tp p hv => Any.strconv_ParseInt_10_at64_syntax_var Go.Proofs.Tryz.laysC174 s (by omega) h tp p w hv
    have C := hide1 c
    clear e1 e2 r h c
    obtain ⟨⟨tp, p, hv⟩, _⟩ := he
    go_enter Tryz.func48, Tryz.ntmps48
    go_wp2_with fail
    refine (C.out tp p hv).mono ?_
    rintro e w1 ⟨N, rfl, hN, hc, h1⟩
    clear hv C hc hN
    go_wp2
    go_ret2
    exact ⟨rfl, h1⟩
  · have r : readV s.data.toList = none := by
      unfold readV
      rw [h]
    have e1 : readN s.data.toList = 0 := by unfold readN; rw [r]; rfl
    have e2 : readS s.data.toList = false := by unfold readS; rw [r]; rfl
    rw [e1, e2]
    have c := fun tp p hv => Any.strconv_ParseInt_10_at64_range_var Go.Proofs.Tryz.laysC174 s (by omega) h tp p w hv
    have C := hide1 c
    clear e1 e2 r h c
    obtain ⟨_, ⟨tp, p, hv⟩⟩ := he
    go_enter Tryz.func48, Tryz.ntmps48
    go_wp2_with fail
    refine (C.out tp p hv).mono ?_
    rintro e w1 ⟨N, rfl, hN, hc, h1⟩
    clear hv C hc hN
    go_wp2
    go_ret2
    exact ⟨rfl, h1⟩

/-! ### bound.Parse -/
theorem form_of_read (r : Bool) (l : List UInt8) (v : Int) (h : readV l = some v) (he : ofE v = 0) : ParseIs ((if r then [60, 61] else [60]) ++ l) (ofB v r) 0 := by
  obtain ⟨f, hv, hr⟩ := ofB_props v r he
  refine .inl ⟨rfl, right_of_fin f, ?_⟩
  rw [printS_fin _ f, hv, hr, (readV_some h).2.2]
/-- No right bound has a text with this sign and a rest that is no numeral of a number within the bounds. -/
theorem none_of_read (r : Bool) (l : List UInt8) (hl : r = false → ∀ m, l ≠ 61 :: m) (h : ∀ v, readV l = some v → ofE v ≠ 0) (c : Int) (rc : rightB c = true) : printS c ≠ (if r then [60, 61] else [60]) ++ l := by
  intro e
  rcases fin_or_inf rc with rfl | fc
  · rw [printS_inf] at e
    cases r <;> cases e
  · rw [printS_fin c fc] at e
    have vc := valV_range c fc
    have key : Lib.itoa (valV c) = l := by
      cases r <;> cases x : valR c <;> simp [x] at e
      · exact e
      · exact absurd e.symm (hl rfl _)
      · exact absurd e (itoa_not_eq _ _)
      · exact e
    have := readV_itoa (valV c) (by omega) (by omega)
    rw [key] at this
    exact h _ this (ofB_back c fc).2
theorem none_of_first (s : List UInt8) (h1 : s ≠ [105, 110, 102]) (h2 : ∀ l, s ≠ 60 :: l) (c : Int) (rc : rightB c = true) : printS c ≠ s := by
  intro e
  rcases fin_or_inf rc with rfl | fc
  · rw [printS_inf] at e
    exact h1 e.symm
  · rw [printS_fin c fc] at e
    cases x : valR c <;> rw [x] at e
    · exact h2 _ e.symm
    · exact h2 _ e.symm
end Go.Proofs.YtdkolgndebkloaaGreatDoor

/-
  The contracts of bound.Parse and of the document's Print and Parse of bounds, for every text and bound.
-/
namespace Go.Proofs.YtdkolgndebkloaaGreatDoor
open Go.RowKit
set_option linter.unusedVariables false

theorem bytes_of (s : ByteArray) : s = ⟨s.data.toList.toArray⟩ := by cases s; simp
theorem size_of_data (s : ByteArray) (l : List UInt8) (h : s.data.toList = l) : s.size = l.length := by rw [← h, len_of]
theorem cut_yes (s : ByteArray) (p m : List UInt8) (w : World) (h : s.data.toList = p ++ m) :
    Calls Tryz.prog 50 #[.string s, .string ⟨p.toArray⟩] w fun e w' => e = .returned (.tuple #[.string ⟨m.toArray⟩, .bool true]) ∧ w' = w := by
  have c := Go.Proofs.Tryz.strings_CutPrefix s ⟨p.toArray⟩ w
  have e1 : Lib.hasPrefix s.data.toList (⟨p.toArray⟩ : ByteArray).data.toList = true := by
    show p.isPrefixOf s.data.toList = true
    rw [List.isPrefixOf_iff_prefix, h]
    exact List.prefix_append p m
  have e2 : Lib.trimPrefix s.data.toList (⟨p.toArray⟩ : ByteArray).data.toList = m := by
    unfold Lib.trimPrefix
    rw [if_pos e1, h]
    exact List.drop_left
  rw [e1, e2] at c
  exact c
theorem cut_no (s : ByteArray) (p : List UInt8) (w : World) (h : ∀ m, s.data.toList ≠ p ++ m) :
    Calls Tryz.prog 50 #[.string s, .string ⟨p.toArray⟩] w fun e w' => e = .returned (.tuple #[.string s, .bool false]) ∧ w' = w := by
  have c := Go.Proofs.Tryz.strings_CutPrefix s ⟨p.toArray⟩ w
  have e1 : Lib.hasPrefix s.data.toList (⟨p.toArray⟩ : ByteArray).data.toList = false := by
    show p.isPrefixOf s.data.toList = false
    rw [Bool.eq_false_iff]
    intro hp
    obtain ⟨m, hm⟩ := List.isPrefixOf_iff_prefix.1 hp
    exact h m hm.symm
  have e2 : Lib.trimPrefix s.data.toList (⟨p.toArray⟩ : ByteArray).data.toList = s.data.toList := by
    unfold Lib.trimPrefix
    rw [if_neg (by rw [e1]; simp)]
  rw [e1, e2, ← bytes_of s] at c
  exact c
theorem cut2_yes (s : ByteArray) (m : List UInt8) (w : World) (h : s.data.toList = 60 :: 61 :: m) :
    Calls Tryz.prog 50 #[.string s, .string ⟨#[60, 61]⟩] w fun e w' => e = .returned (.tuple #[.string ⟨m.toArray⟩, .bool true]) ∧ w' = w := cut_yes s [60, 61] m w h
theorem cut2_no (s : ByteArray) (w : World) (h : ∀ m, s.data.toList ≠ 60 :: 61 :: m) :
    Calls Tryz.prog 50 #[.string s, .string ⟨#[60, 61]⟩] w fun e w' => e = .returned (.tuple #[.string s, .bool false]) ∧ w' = w := cut_no s [60, 61] w h
theorem cut1_yes (s : ByteArray) (m : List UInt8) (w : World) (h : s.data.toList = 60 :: m) :
    Calls Tryz.prog 50 #[.string s, .string ⟨#[60]⟩] w fun e w' => e = .returned (.tuple #[.string ⟨m.toArray⟩, .bool true]) ∧ w' = w := cut_yes s [60] m w h
theorem cut1_no (s : ByteArray) (w : World) (h : ∀ m, s.data.toList ≠ 60 :: m) :
    Calls Tryz.prog 50 #[.string s, .string ⟨#[60]⟩] w fun e w' => e = .returned (.tuple #[.string s, .bool false]) ∧ w' = w := cut_no s [60] w h
theorem read_list (m : List UInt8) (w : World) (hlim : m.length ≤ 140737488355328) (ht : Pow w) (he : Errs w) :
    Calls Tryz.prog 48 #[.string ⟨m.toArray⟩] w fun e w' => e = .returned (.tuple #[.int .i64 (readN m), .bool (readS m)]) ∧ Below w.heap.size w w' := by
  have c := read_any ⟨m.toArray⟩ w (by show m.toArray.size ≤ _; simpa using hlim) ht he
  exact c

theorem ret_pair {a b c d : Int} (h : a = b) (g : c = d) : Ending.returned (.tuple #[.int .i32 a, .int .i64 c]) = .returned (.tuple #[.int .i32 b, .int .i64 d]) := by rw [h, g]
theorem readS_some (m : List UInt8) (h : readS m = true) : readV m = some (readN m) := by
  unfold readS at h
  unfold readN
  cases x : readV m
  · rw [x] at h; cases h
  · rfl
theorem readS_none (m : List UInt8) (h : readS m = false) : readV m = none := by
  unfold readS at h
  cases x : readV m
  · rfl
  · rw [x] at h; cases h
theorem not_inf (s : ByteArray) (h : s.data.toList ≠ [105, 110, 102]) : (s.toList == [105, 110, 102]) = false := by
  rw [ByteArray.toList_eq]
  simpa using h

set_option maxHeartbeats 1000000 in
theorem parse_inf (s : ByteArray) (w : World) (h : s.data.toList = [105, 110, 102]) :
    Calls Tryz.prog 73 #[.string s] w fun e w' => ∃ b er, e = .returned (.tuple #[.int .i32 b, .int .i64 er]) ∧ ParseIs s.data.toList b er ∧ Below w.heap.size w w' := by
  have hp : Hid (ParseIs s.data.toList 2147483647 0) := .inl ⟨rfl, right_inf, by rw [h]; exact printS_inf⟩
  have hi : (s.toList == [105, 110, 102]) = true := by rw [ByteArray.toList_eq, h]; rfl
  clear h
  go_enter Tryz.func73, Tryz.ntmps73
  go_wp2_with fail
  go_ret2
  exact ⟨_, _, rfl, hp.out, Below.refl _ _⟩

theorem cases_read (r : Bool) (m : List UInt8) (hl : r = false → ∀ n, m ≠ 61 :: n) : (readS m = false → ParseIs ((if r then [60, 61] else [60]) ++ m) 0 7) ∧ (readS m = true → ofE (readN m) ≠ 0 → ParseIs ((if r then [60, 61] else [60]) ++ m) 0 7) ∧ (readS m = true → ofE (readN m) = 0 → ParseIs ((if r then [60, 61] else [60]) ++ m) (ofB (readN m) r) 0) := by
  refine ⟨fun h => ?_, fun h g => ?_, fun h g => form_of_read r m _ (readS_some m h) g⟩
  · refine .inr ⟨rfl, rfl, fun c rc => none_of_read r m hl (fun v hv => ?_) c rc⟩
    rw [readS_none m h] at hv
    cases hv
  · refine .inr ⟨rfl, rfl, fun c rc => none_of_read r m hl (fun v hv => ?_) c rc⟩
    rw [readS_some m h] at hv
    cases hv
    exact g

set_option maxHeartbeats 1000000 in
theorem parse_le (s : ByteArray) (m : List UInt8) (w : World) (hm : s.data.toList = 60 :: 61 :: m) (hlim : s.size ≤ 140737488355328) (ht : Pow w) (he : Errs w) :
    Calls Tryz.prog 73 #[.string s] w fun e w' => ∃ b er, e = .returned (.tuple #[.int .i32 b, .int .i64 er]) ∧ ParseIs s.data.toList b er ∧ Below w.heap.size w w' := by
  have hi := not_inf s (by rw [hm]; intro h; cases h)
  have hlen : m.length ≤ 140737488355328 := by
    have := size_of_data s _ hm
    simp at this
    omega
  have cs := cases_read true m (by intro h; cases h)
  have K := hide1 cs
  have HM := hide1 hm
  have C := hide1 (fun w => cut2_yes s m w hm)
  clear cs hm
  go_enter Tryz.func73, Tryz.ntmps73
  go_wp2_with fail
  refine (C.out _).mono ?_
  rintro e w' ⟨rfl, rfl⟩
  go_wp2_with fail
  refine (read_list m _ hlen ht he).mono ?_
  rintro e w1 ⟨rfl, h1⟩
  cases q : readS m
  · go_wp2
    go_ret2
    refine ⟨_, _, rfl, ?_, h1⟩
    rw [HM.out]
    exact K.out.1 q
  · by_cases g : ofE (readN m) = 0
    · go_wp2_with (go_at_call 85; refine (of_any _ _ _).mono ?_; rintro e w' ⟨rfl, rfl⟩)
      go_ret2
      refine ⟨_, _, rfl, ?_, h1⟩
      rw [HM.out]
      exact K.out.2.2 q g
    · have g' : (ofE (readN m) != 0) = true := by simpa using g
      have G := hide1 g
      clear g
      go_wp2_with (go_at_call 85; refine (of_any _ _ _).mono ?_; rintro e w' ⟨rfl, rfl⟩)
      go_ret2
      refine ⟨_, _, rfl, ?_, h1⟩
      rw [HM.out]
      exact K.out.2.1 q G.out

set_option maxHeartbeats 1000000 in
theorem parse_lt (s : ByteArray) (m : List UInt8) (w : World) (hm : s.data.toList = 60 :: m) (hn : ∀ n, m ≠ 61 :: n) (hlim : s.size ≤ 140737488355328) (ht : Pow w) (he : Errs w) :
    Calls Tryz.prog 73 #[.string s] w fun e w' => ∃ b er, e = .returned (.tuple #[.int .i32 b, .int .i64 er]) ∧ ParseIs s.data.toList b er ∧ Below w.heap.size w w' := by
  have hi := not_inf s (by rw [hm]; intro h; cases h)
  have hlen : m.length ≤ 140737488355328 := by
    have := size_of_data s _ hm
    simp at this
    omega
  have cs := cases_read false m (fun _ => hn)
  have K := hide1 cs
  have HM := hide1 hm
  have C1 := hide1 (fun w => cut2_no s w (fun n e => by rw [hm] at e; exact hn n (List.cons.inj e).2))
  have C2 := hide1 (fun w => cut1_yes s m w hm)
  clear cs hm hn
  go_enter Tryz.func73, Tryz.ntmps73
  go_wp2_with fail
  refine (C1.out _).mono ?_
  rintro e w' ⟨rfl, rfl⟩
  go_wp2_with fail
  refine (C2.out _).mono ?_
  rintro e w' ⟨rfl, rfl⟩
  go_wp2_with fail
  refine (read_list m _ hlen ht he).mono ?_
  rintro e w1 ⟨rfl, h1⟩
  cases q : readS m
  · go_wp2
    go_ret2
    refine ⟨_, _, rfl, ?_, h1⟩
    rw [HM.out]
    exact K.out.1 q
  · by_cases g : ofE (readN m) = 0
    · go_wp2_with (go_at_call 85; refine (of_any _ _ _).mono ?_; rintro e w' ⟨rfl, rfl⟩)
      go_ret2
      refine ⟨_, _, rfl, ?_, h1⟩
      rw [HM.out]
      exact K.out.2.2 q g
    · have g' : (ofE (readN m) != 0) = true := by simpa using g
      have G := hide1 g
      clear g
      go_wp2_with (go_at_call 85; refine (of_any _ _ _).mono ?_; rintro e w' ⟨rfl, rfl⟩)
      go_ret2
      refine ⟨_, _, rfl, ?_, h1⟩
      rw [HM.out]
      exact K.out.2.1 q G.out

set_option maxHeartbeats 1000000 in
theorem parse_no (s : ByteArray) (w : World) (h1 : s.data.toList ≠ [105, 110, 102]) (h2 : ∀ m, s.data.toList ≠ 60 :: m) :
    Calls Tryz.prog 73 #[.string s] w fun e w' => ∃ b er, e = .returned (.tuple #[.int .i32 b, .int .i64 er]) ∧ ParseIs s.data.toList b er ∧ Below w.heap.size w w' := by
  have hi := not_inf s h1
  have K : Hid (ParseIs s.data.toList 0 7) := .inr ⟨rfl, rfl, fun c rc => none_of_first _ h1 h2 c rc⟩
  have C1 := hide1 (fun w => cut2_no s w (fun n e => h2 _ e))
  have C2 := hide1 (fun w => cut1_no s w h2)
  clear h1 h2
  go_enter Tryz.func73, Tryz.ntmps73
  go_wp2_with fail
  refine (C1.out _).mono ?_
  rintro e w' ⟨rfl, rfl⟩
  go_wp2_with fail
  refine (C2.out _).mono ?_
  rintro e w' ⟨rfl, rfl⟩
  go_wp2
  go_ret2
  exact ⟨_, _, rfl, K.out, Below.refl _ _⟩

theorem parse_any (s : ByteArray) (w : World) (hlim : s.size ≤ 140737488355328) (ht : Pow w) (he : Errs w) :
    Calls Tryz.prog 73 #[.string s] w fun e w' => ∃ b er, e = .returned (.tuple #[.int .i32 b, .int .i64 er]) ∧ ParseIs s.data.toList b er ∧ Below w.heap.size w w' := by
  by_cases h1 : s.data.toList = [105, 110, 102]
  · exact parse_inf s w h1
  · by_cases h2 : ∃ m, s.data.toList = 60 :: m
    · obtain ⟨m, hm⟩ := h2
      by_cases h3 : ∃ n, m = 61 :: n
      · obtain ⟨n, rfl⟩ := h3
        exact parse_le s n w hm hlim ht he
      · exact parse_lt s m w hm (fun n e => h3 ⟨n, e⟩) hlim ht he
    · exact parse_no s w h1 (fun m e => h2 ⟨m, e⟩)

/-! ### the document's Print -/
theorem rprint_any (b : Int) (w : World) (h0 : -2147483648 ≤ b) (h1 : b ≤ 2147483647) (ht : Pow w) :
    Calls Tryz.prog 35 #[.int .i32 b] w fun e w' => e = .returned (.string ⟨(printS b).toArray⟩) ∧ Below w.heap.size w w' := by
  by_cases h : b = 2147483647
  · subst h
    go_enter Tryz.func35, Tryz.ntmps35
    go_wp2_with fail
    refine (rvalue_inf _).mono ?_
    rintro e w' ⟨rfl, rfl⟩
    go_wp2_with fail
    refine (rright_any _ _ h0 h1).mono ?_
    rw [right_inf]
    rintro e w' ⟨rfl, rfl⟩
    go_wp2_with fail
    go_ret
    exact ⟨rfl, Below.refl _ _⟩
  · cases f : finB b
    · have e1 : printS b = [] := by simp [printS, h, f]
      have r : rightB b = false := by
        cases q : rightB b
        · rfl
        · rcases fin_or_inf q with x | x
          · exact absurd x h
          · rw [f] at x; cases x
      rw [e1]
      clear e1
      go_enter Tryz.func35, Tryz.ntmps35
      go_wp2_with (first | (go_at_call 62; refine (rvalue_any _ _ h0 h1).mono ?_; rintro e w' ⟨rfl, rfl⟩) | (go_at_call 44; refine (rright_any _ _ h0 h1).mono ?_; rintro e w' ⟨rfl, rfl⟩))
      go_ret
      exact ⟨rfl, Below.refl _ _⟩
    · have rr := right_of_fin f
      have l := (fin_iff b).1 f
      have l0 : -9223372036854775808 ≤ valV b := by simp [valV, f]; omega
      have l1 : valV b ≤ 9223372036854775807 := by simp [valV, f]; omega
      have hl := Lib.itoa_length_le (valV b) l0 l1
      cases r : valR b
      · have e1 : printS b = [60] ++ Lib.itoa (valV b) := by simp [printS, h, f, r]
        rw [e1]
        clear e1 l
        go_enter Tryz.func35, Tryz.ntmps35
        go_wp2_with (first | (go_at_call 62; refine (rvalue_any _ _ h0 h1).mono ?_; rintro e w' ⟨rfl, rfl⟩) | (go_at_call 44; refine (rright_any _ _ h0 h1).mono ?_; rintro e w' ⟨rfl, rfl⟩) | (go_at_call 26; refine (Go.Proofs.Tryz.strconv_Itoa _ l0 l1 _ ht).mono ?_; rintro e w' ⟨rfl, k, os, rfl⟩))
        go_ret
        exact ⟨ret_str (str_cat _ _), Lib.below_grow _ _ (Nat.le_refl _) _ _⟩
      · have e1 : printS b = [60, 61] ++ Lib.itoa (valV b) := by simp [printS, h, f, r]
        rw [e1]
        clear e1 l
        go_enter Tryz.func35, Tryz.ntmps35
        go_wp2_with (first | (go_at_call 62; refine (rvalue_any _ _ h0 h1).mono ?_; rintro e w' ⟨rfl, rfl⟩) | (go_at_call 44; refine (rright_any _ _ h0 h1).mono ?_; rintro e w' ⟨rfl, rfl⟩) | (go_at_call 26; refine (Go.Proofs.Tryz.strconv_Itoa _ l0 l1 _ ht).mono ?_; rintro e w' ⟨rfl, k, os, rfl⟩))
        go_ret
        exact ⟨ret_str (str_cat _ _), Lib.below_grow _ _ (Nat.le_refl _) _ _⟩
end Go.Proofs.YtdkolgndebkloaaGreatDoor

/-
  The contract of the document's Parse of bounds, and the walk of the law BoundTexts: for every bound and text it returns true, and nothing that was there has turned; the conditions: the text takes at most 2^47 bytes (the form's own reach), and the library's table and its two errors lie as their texts lay them.
-/
namespace Go.Proofs.YtdkolgndebkloaaGreatDoor
open Go.RowKit
set_option linter.unusedVariables false

theorem numS_some (m : List UInt8) (h : numS m = true) : numV m = some (numN m) := by
  unfold numS at h
  unfold numN
  cases x : numV m
  · rw [x] at h; cases h
  · rfl
theorem numS_none (m : List UInt8) (h : numS m = false) : numV m = none := by
  unfold numS at h
  cases x : numV m
  · rfl
  · rw [x] at h; cases h
/-- What the second sign says of a right bound's text. -/
theorem second (c : Int) (fc : finB c = true) (x : UInt8) (m : List UInt8) (a : UInt8) (h : printS c = a :: x :: m) : (x = 61 ↔ valR c = true) ∧ Lib.itoa (valV c) = (if valR c then m else x :: m) := by
  rw [printS_fin c fc] at h
  cases v : valR c <;> rw [v] at h
  · have h : Lib.itoa (valV c) = x :: m := (List.cons.inj h).2
    refine ⟨⟨fun e => ?_, fun e => by cases e⟩, h⟩
    subst e
    exact absurd h (itoa_not_eq _ _)
  · have h := (List.cons.inj h).2
    have h1 : (61 : UInt8) = x := (List.cons.inj h).1
    have h2 : Lib.itoa (valV c) = m := (List.cons.inj h).2
    exact ⟨⟨fun _ => rfl, fun _ => h1.symm⟩, h2⟩
/-- Where the document's Parse answers ErrForm there is no bound with that text. -/
theorem rparse_none (l : List UInt8) (h1 : l ≠ [105, 110, 102]) (r : Bool) (m : List UInt8)
    (hr : ∀ c, finB c = true → printS c = l → valR c = r ∧ Lib.itoa (valV c) = m)
    (hbad : numS m = false ∨ ofE (numN m) ≠ 0 ∨ printS (ofB (numN m) r) ≠ l) : ParseIs l 0 7 := by
  refine .inr ⟨rfl, rfl, fun c rc e => ?_⟩
  rcases fin_or_inf rc with rfl | fc
  · rw [printS_inf] at e
    exact h1 e.symm
  · obtain ⟨v, i⟩ := hr c fc e
    have vc := valV_range c fc
    have hv := numV_itoa (valV c) vc.1 vc.2
    rw [i] at hv
    obtain ⟨b1, b2⟩ := ofB_back c fc
    rcases hbad with h | h | h
    · rw [numS_none m h] at hv
      cases hv
    · have : numN m = valV c := by unfold numN; rw [hv]; rfl
      rw [this] at h
      exact h b2
    · have : numN m = valV c := by unfold numN; rw [hv]; rfl
      rw [this, ← v, b1] at h
      exact h e
theorem rparse_good (l m : List UInt8) (r : Bool) (he : ofE (numN m) = 0) (hp : printS (ofB (numN m) r) = l) : ParseIs l (ofB (numN m) r) 0 :=
  .inl ⟨rfl, right_of_fin (ofB_props _ r he).1, hp⟩

theorem rparse_inf (s : ByteArray) (w : World) (h : s.data.toList = [105, 110, 102]) :
    Calls Tryz.prog 54 #[.string s] w fun e w' => ∃ b er, e = .returned (.tuple #[.int .i32 b, .int .i64 er]) ∧ ParseIs s.data.toList b er ∧ Below w.heap.size w w' := by
  have hp : Hid (ParseIs s.data.toList 2147483647 0) := .inl ⟨rfl, right_inf, by rw [h]; exact printS_inf⟩
  have hi : (s.toList == [105, 110, 102]) = true := by rw [ByteArray.toList_eq, h]; rfl
  clear h
  go_enter Tryz.func54, Tryz.ntmps54
  go_wp2_with fail
  go_ret2
  exact ⟨_, _, rfl, hp.out, Below.refl _ _⟩
theorem rparse_empty (s : ByteArray) (w : World) (h : s.size = 0) :
    Calls Tryz.prog 54 #[.string s] w fun e w' => ∃ b er, e = .returned (.tuple #[.int .i32 b, .int .i64 er]) ∧ ParseIs s.data.toList b er ∧ Below w.heap.size w w' := by
  have hl : s.data.toList = [] := List.length_eq_zero_iff.1 (by rw [len_of]; exact h)
  have K : Hid (ParseIs s.data.toList 0 7) := by
    rw [hl]
    exact .inr ⟨rfl, rfl, fun c rc => none_of_first _ (by intro e; cases e) (by intro m e; cases e) c rc⟩
  obtain rfl : s = ByteArray.empty := by
    apply ByteArray.ext
    exact Array.eq_empty_of_size_eq_zero h
  clear h hl
  go_enter Tryz.func54, Tryz.ntmps54
  go_wp2_with fail
  go_ret2
  exact ⟨_, _, rfl, K.out, Below.refl _ _⟩

theorem bounds_ofB (v : Int) (r : Bool) : -2147483648 ≤ ofB v r ∧ ofB v r ≤ 2147483647 := by
  unfold ofB
  split
  · omega
  · cases r
    · simp only [Bool.false_eq_true, if_false]; omega
    · simp only [if_true]; omega
theorem ne_bytes (a : List UInt8) (s : ByteArray) (h : a ≠ s.data.toList) : ((⟨a.toArray⟩ : ByteArray).toList == s.toList) = false := by
  rw [ByteArray.toList_eq, ByteArray.toList_eq]
  simpa using h

set_option maxHeartbeats 1000000 in
theorem rparse_two (s : ByteArray) (w : World) (hs : 1 < s.size) (hbig : s.size ≤ 9223372036854775807) (h1 : s.data.toList ≠ [105, 110, 102]) (h2 : ((s[1].toNat : Int) == 61) = true)
    (hr : ∀ c, finB c = true → printS c = s.data.toList → valR c = true ∧ Lib.itoa (valV c) = s.data.toList.drop 2) (ht : Pow w) :
    Calls Tryz.prog 54 #[.string s] w fun e w' => ∃ b er, e = .returned (.tuple #[.int .i32 b, .int .i64 er]) ∧ ParseIs s.data.toList b er ∧ Below w.heap.size w w' := by
  have hi := not_inf s h1
  have KN := hide1 (rparse_none s.data.toList h1 true (s.data.toList.drop 2) hr)
  have KG := hide1 (rparse_good s.data.toList (s.data.toList.drop 2) true)
  have BB := bounds_ofB (numN (s.data.toList.drop 2)) true
  have HD : Hid ((s.extract 2 s.size).data.toList = s.data.toList.drop 2) := drop_of s 2
  have HZ : (s.extract 2 s.size).size ≤ 9223372036854775807 := by simp; omega
  have HZ := hide1 HZ
  have NE := hide1 (fun a => ne_bytes a s)
  clear hr h1
  go_enter Tryz.func54, Tryz.ntmps54
  go_wp2_with fail
  generalize s.data.toList.drop 2 = m at *
  refine (numberR_any _ _ HZ.out).mono ?_
  rw [HD.out]
  rintro e w' ⟨rfl, rfl⟩
  clear HZ HD
  cases q : numS m
  · go_wp2_with (go_at_call 75; refine (rof_any _ _ _).mono ?_; rintro e w' ⟨rfl, rfl⟩)
    go_ret2
    exact ⟨_, _, rfl, KN.out (.inl q), Below.refl _ _⟩
  · by_cases g : ofE (numN m) = 0
    · by_cases p : printS (ofB (numN m) true) = s.data.toList
      · have KP := KG.out g p
        have KP := hide1 KP
        have P := hide1 p
        clear KN KG p
        go_wp2_with fail
        refine (rof_any _ _ _).mono ?_
        rintro e w' ⟨rfl, rfl⟩
        go_wp2_with fail
        refine (rprint_any _ _ BB.1 BB.2 ht).mono ?_
        rw [P.out, ← bytes_of s]
        rintro e w1 ⟨rfl, h1⟩
        go_wp2
        go_ret2
        exact ⟨_, _, rfl, KP.out, h1⟩
      · have KP := KN.out (.inr (.inr p))
        have KP := hide1 KP
        have N := hide1 (NE.out _ p)
        clear KN KG p
        go_wp2_with fail
        refine (rof_any _ _ _).mono ?_
        rintro e w' ⟨rfl, rfl⟩
        go_wp2_with fail
        refine (rprint_any _ _ BB.1 BB.2 ht).mono ?_
        rintro e w1 ⟨rfl, h1⟩
        have N2 := N.out
        clear N
        generalize (⟨(printS (ofB (numN m) true)).toArray⟩ : ByteArray) = z at *
        go_wp2
        go_ret2
        exact ⟨_, _, rfl, KP.out, h1⟩
    · have KP := KN.out (.inr (.inl g))
      have KP := hide1 KP
      have g' : (ofE (numN m) != 0) = true := by simpa using g
      clear KN KG g
      go_wp2_with (go_at_call 75; refine (rof_any _ _ _).mono ?_; rintro e w' ⟨rfl, rfl⟩)
      go_ret2
      exact ⟨_, _, rfl, KP.out, Below.refl _ _⟩
set_option maxHeartbeats 1000000 in
theorem rparse_one (s : ByteArray) (w : World) (hs : 1 < s.size) (hbig : s.size ≤ 9223372036854775807) (h1 : s.data.toList ≠ [105, 110, 102]) (h2 : ((s[1].toNat : Int) == 61) = false)
    (hr : ∀ c, finB c = true → printS c = s.data.toList → valR c = false ∧ Lib.itoa (valV c) = s.data.toList.drop 1) (ht : Pow w) :
    Calls Tryz.prog 54 #[.string s] w fun e w' => ∃ b er, e = .returned (.tuple #[.int .i32 b, .int .i64 er]) ∧ ParseIs s.data.toList b er ∧ Below w.heap.size w w' := by
  have hi := not_inf s h1
  have KN := hide1 (rparse_none s.data.toList h1 false (s.data.toList.drop 1) hr)
  have KG := hide1 (rparse_good s.data.toList (s.data.toList.drop 1) false)
  have BB := bounds_ofB (numN (s.data.toList.drop 1)) false
  have HD : Hid ((s.extract 1 s.size).data.toList = s.data.toList.drop 1) := drop_of s 1
  have HZ : (s.extract 1 s.size).size ≤ 9223372036854775807 := by simp; omega
  have HZ := hide1 HZ
  have NE := hide1 (fun a => ne_bytes a s)
  clear hr h1
  go_enter Tryz.func54, Tryz.ntmps54
  go_wp2_with fail
  generalize s.data.toList.drop 1 = m at *
  refine (numberR_any _ _ HZ.out).mono ?_
  rw [HD.out]
  rintro e w' ⟨rfl, rfl⟩
  clear HZ HD
  cases q : numS m
  · go_wp2_with (go_at_call 75; refine (rof_any _ _ _).mono ?_; rintro e w' ⟨rfl, rfl⟩)
    go_ret2
    exact ⟨_, _, rfl, KN.out (.inl q), Below.refl _ _⟩
  · by_cases g : ofE (numN m) = 0
    · by_cases p : printS (ofB (numN m) false) = s.data.toList
      · have KP := KG.out g p
        have KP := hide1 KP
        have P := hide1 p
        clear KN KG p
        go_wp2_with fail
        refine (rof_any _ _ _).mono ?_
        rintro e w' ⟨rfl, rfl⟩
        go_wp2_with fail
        refine (rprint_any _ _ BB.1 BB.2 ht).mono ?_
        rw [P.out, ← bytes_of s]
        rintro e w1 ⟨rfl, h1⟩
        go_wp2
        go_ret2
        exact ⟨_, _, rfl, KP.out, h1⟩
      · have KP := KN.out (.inr (.inr p))
        have KP := hide1 KP
        have N := hide1 (NE.out _ p)
        clear KN KG p
        go_wp2_with fail
        refine (rof_any _ _ _).mono ?_
        rintro e w' ⟨rfl, rfl⟩
        go_wp2_with fail
        refine (rprint_any _ _ BB.1 BB.2 ht).mono ?_
        rintro e w1 ⟨rfl, h1⟩
        have N2 := N.out
        clear N
        generalize (⟨(printS (ofB (numN m) false)).toArray⟩ : ByteArray) = z at *
        go_wp2
        go_ret2
        exact ⟨_, _, rfl, KP.out, h1⟩
    · have KP := KN.out (.inr (.inl g))
      have KP := hide1 KP
      have g' : (ofE (numN m) != 0) = true := by simpa using g
      clear KN KG g
      go_wp2_with (go_at_call 75; refine (rof_any _ _ _).mono ?_; rintro e w' ⟨rfl, rfl⟩)
      go_ret2
      exact ⟨_, _, rfl, KP.out, Below.refl _ _⟩
set_option maxHeartbeats 1000000 in
theorem rparse_short (s : ByteArray) (w : World) (hs0 : 0 < s.size) (hs : s.size ≤ 1) (hbig : s.size ≤ 9223372036854775807) (h1 : s.data.toList ≠ [105, 110, 102]) (hr : ∀ c, finB c = true → printS c = s.data.toList → valR c = false ∧ Lib.itoa (valV c) = s.data.toList.drop 1) (ht : Pow w) :
    Calls Tryz.prog 54 #[.string s] w fun e w' => ∃ b er, e = .returned (.tuple #[.int .i32 b, .int .i64 er]) ∧ ParseIs s.data.toList b er ∧ Below w.heap.size w w' := by
  have hi := not_inf s h1
  have KN := hide1 (rparse_none s.data.toList h1 false (s.data.toList.drop 1) hr)
  have KG := hide1 (rparse_good s.data.toList (s.data.toList.drop 1) false)
  have BB := bounds_ofB (numN (s.data.toList.drop 1)) false
  have HD : Hid ((s.extract 1 s.size).data.toList = s.data.toList.drop 1) := drop_of s 1
  have HZ : (s.extract 1 s.size).size ≤ 9223372036854775807 := by simp; omega
  have HZ := hide1 HZ
  have NE := hide1 (fun a => ne_bytes a s)
  have hne : ¬ s = ByteArray.empty := by rintro rfl; simp at hs0
  clear hr h1
  go_enter Tryz.func54, Tryz.ntmps54
  go_wp2_with fail
  generalize s.data.toList.drop 1 = m at *
  refine (numberR_any _ _ HZ.out).mono ?_
  rw [HD.out]
  rintro e w' ⟨rfl, rfl⟩
  clear HZ HD
  cases q : numS m
  · go_wp2_with (go_at_call 75; refine (rof_any _ _ _).mono ?_; rintro e w' ⟨rfl, rfl⟩)
    go_ret2
    exact ⟨_, _, rfl, KN.out (.inl q), Below.refl _ _⟩
  · by_cases g : ofE (numN m) = 0
    · by_cases p : printS (ofB (numN m) false) = s.data.toList
      · have KP := KG.out g p
        have KP := hide1 KP
        have P := hide1 p
        clear KN KG p
        go_wp2_with fail
        refine (rof_any _ _ _).mono ?_
        rintro e w' ⟨rfl, rfl⟩
        go_wp2_with fail
        refine (rprint_any _ _ BB.1 BB.2 ht).mono ?_
        rw [P.out, ← bytes_of s]
        rintro e w1 ⟨rfl, h1⟩
        go_wp2
        go_ret2
        exact ⟨_, _, rfl, KP.out, h1⟩
      · have KP := KN.out (.inr (.inr p))
        have KP := hide1 KP
        have N := hide1 (NE.out _ p)
        clear KN KG p
        go_wp2_with fail
        refine (rof_any _ _ _).mono ?_
        rintro e w' ⟨rfl, rfl⟩
        go_wp2_with fail
        refine (rprint_any _ _ BB.1 BB.2 ht).mono ?_
        rintro e w1 ⟨rfl, h1⟩
        have N2 := N.out
        clear N
        generalize (⟨(printS (ofB (numN m) false)).toArray⟩ : ByteArray) = z at *
        go_wp2
        go_ret2
        exact ⟨_, _, rfl, KP.out, h1⟩
    · have KP := KN.out (.inr (.inl g))
      have KP := hide1 KP
      have g' : (ofE (numN m) != 0) = true := by simpa using g
      clear KN KG g
      go_wp2_with (go_at_call 75; refine (rof_any _ _ _).mono ?_; rintro e w' ⟨rfl, rfl⟩)
      go_ret2
      exact ⟨_, _, rfl, KP.out, Below.refl _ _⟩

theorem list_two (s : ByteArray) (hs : 1 < s.size) : ∃ a m, s.data.toList = a :: s[1] :: m := by
  have h1 : s.data.toList.drop 1 = s[1] :: s.data.toList.drop 2 := by
    rw [List.drop_eq_getElem_cons (by simpa using hs)]
    rfl
  have h0 : s.data.toList = s[0] :: s.data.toList.drop 1 := by
    have := List.drop_eq_getElem_cons (l := s.data.toList) (i := 0) (by rw [len_of]; omega)
    exact this
  exact ⟨s[0], s.data.toList.drop 2, by rw [h1] at h0; exact h0⟩
theorem rparse_any (s : ByteArray) (w : World) (hbig : s.size ≤ 9223372036854775807) (ht : Pow w) :
    Calls Tryz.prog 54 #[.string s] w fun e w' => ∃ b er, e = .returned (.tuple #[.int .i32 b, .int .i64 er]) ∧ ParseIs s.data.toList b er ∧ Below w.heap.size w w' := by
  by_cases h1 : s.data.toList = [105, 110, 102]
  · exact rparse_inf s w h1
  by_cases h0 : s.size = 0
  · exact rparse_empty s w h0
  by_cases hs : s.size = 1
  · refine rparse_short s w (by omega) (by omega) hbig h1 (fun c fc e => ?_) ht
    have hl := congrArg List.length e
    rw [printS_fin c fc, len_of, hs, List.length_append] at hl
    obtain ⟨x, r, hx, _⟩ := itoa_head (valV c)
    rw [hx, List.length_cons] at hl
    have hq : 1 ≤ (if valR c = true then [60, 61] else [60] : List UInt8).length := by split <;> simp
    omega
  have hs : 1 < s.size := by omega
  obtain ⟨a, m, hm⟩ := list_two s hs
  have d1 : s.data.toList.drop 1 = s[1] :: m := by rw [hm]; rfl
  have d2 : s.data.toList.drop 2 = m := by rw [hm]; rfl
  by_cases h2 : s[1] = 61
  · refine rparse_two s w hs hbig h1 (by rw [h2]; rfl) (fun c fc e => ?_) ht
    rw [hm] at e
    obtain ⟨i, j⟩ := second c fc _ _ _ e
    have v := i.1 h2
    rw [v] at j
    exact ⟨v, j.trans d2.symm⟩
  · have h3 : ((s[1].toNat : Int) == 61) = false := by
      have : s[1].toNat ≠ 61 := fun e => h2 (UInt8.toNat_inj.1 (show s[1].toNat = (61 : UInt8).toNat from e))
      simp
      omega
    refine rparse_one s w hs hbig h1 h3 (fun c fc e => ?_) ht
    rw [hm] at e
    obtain ⟨i, j⟩ := second c fc _ _ _ e
    have v : valR c = false := by
      cases q : valR c
      · rfl
      · exact absurd (i.2 q) h2
    rw [v] at j
    exact ⟨v, j.trans d1.symm⟩

namespace boundTexts
theorem printS_len (b : Int) : (printS b).length ≤ 30 := by
  unfold printS
  split
  · simp
  · split
    · next f =>
      have := valV_range b f
      have := Lib.itoa_length_le (valV b) (by omega) (by omega)
      split <;> simp <;> omega
    · simp
/-- There and back. -/
theorem back (b z g : Int) (h : ParseIs (printS b) z g) : (rightB b = true ∧ g = 0 ∧ z = b) ∨ (rightB b = false ∧ g = 7 ∧ z = 0) := by
  cases r : rightB b
  · right
    rcases h with ⟨rfl, rz, pz⟩ | ⟨rfl, rfl, _⟩
    · have e : printS b = [] := by
        have h1 : b ≠ 2147483647 := by rintro rfl; rw [right_inf] at r; cases r
        have f : finB b = false := by
          cases f : finB b
          · rfl
          · rw [right_of_fin f] at r; cases r
        simp [printS, h1, f]
      rw [e] at pz
      rcases fin_or_inf rz with rfl | fz
      · rw [printS_inf] at pz; cases pz
      · rw [printS_fin z fz] at pz
        split at pz <;> cases pz
    · exact ⟨rfl, rfl, rfl⟩
  · left
    rcases h with ⟨rfl, rz, pz⟩ | ⟨rfl, rfl, n⟩
    · exact ⟨rfl, rfl, print_inj _ _ rz r pz⟩
    · exact absurd rfl (n b r)

end boundTexts
end Go.Proofs.YtdkolgndebkloaaGreatDoor
