/-
  The contract of the document's Number (gnomonref01): for every text it returns the number that its digits spell, with a minus at most, of at most 18 digits, or none; the world stays.
-/
import Derived.Test.YtaagfiebcnnjjaaDoorBb
import Derived.Test.YtaagfiebcnnjjaaDoorDm
import Derived.WalkSpells
import Derived.Lib.IndexBytes
namespace Go.Proofs.YtaagfiebcnnjjaaDoor
open Go.RowKit
set_option linter.unusedVariables false

def isDigB (c : UInt8) : Bool := decide (48 ≤ c.toNat ∧ c.toNat ≤ 57)
/-- The number that a row of digits spells (of 1 to 18 digits). -/
def bodyV (l : List UInt8) : Option Nat := if l = [] ∨ 18 < l.length then none else if l.all isDigB then some (dval 0 l) else none
def numV (l : List UInt8) : Option Int := if l.head? = some 45 then (bodyV (l.drop 1)).map (fun n : Nat => -(n : Int)) else (bodyV l).map (fun n : Nat => (n : Int))
def numN (l : List UInt8) : Int := (numV l).getD 0
def numS (l : List UInt8) : Bool := (numV l).isSome

theorem tk_snoc (s : ByteArray) (k : Nat) (h : k < s.size) : s.data.toList.take (k + 1) = s.data.toList.take k ++ [s[k]] := by
  rw [List.take_succ_eq_append_getElem (by simpa using h)]; rfl
theorem len_of (s : ByteArray) : s.data.toList.length = s.size := by simp
theorem dval_lt (l : List UInt8) (h : l.all isDigB = true) : dval 0 l < 10 ^ l.length := by
  have key : ∀ (l : List UInt8) (acc : Nat), l.all isDigB = true → dval acc l < (acc + 1) * 10 ^ l.length := by
    intro l
    induction l with
    | nil => intro acc _; simp [dval]
    | cons c l ih =>
      intro acc hc
      simp only [List.all_cons, Bool.and_eq_true] at hc
      have h1 : 48 ≤ c.toNat ∧ c.toNat ≤ 57 := by simpa [isDigB] using hc.1
      have := ih (acc * 10 + (c.toNat - 48)) hc.2
      rw [dval_cons, List.length_cons, Nat.pow_succ]
      have h2 : (acc * 10 + (c.toNat - 48) + 1) * 10 ^ l.length ≤ ((acc + 1) * 10) * 10 ^ l.length := Nat.mul_le_mul_right _ (by omega)
      have h3 : (acc + 1) * 10 * 10 ^ l.length = (acc + 1) * (10 ^ l.length * 10) := by rw [Nat.mul_assoc, Nat.mul_comm 10]
      omega
  have := key l 0 h
  simpa using this
theorem bodyV_lt {l : List UInt8} {n : Nat} (h : bodyV l = some n) : n < 1000000000000000000 := by
  unfold bodyV at h
  split at h
  · cases h
  · next hl =>
    split at h
    · next ha =>
      cases h
      have h1 := dval_lt l ha
      have h2 : 10 ^ l.length ≤ 10 ^ 18 := Nat.pow_le_pow_right (by omega) (by omega)
      have h3 : (10 : Nat) ^ 18 = 1000000000000000000 := by decide
      omega
    · cases h
theorem ret_num {a b : Int} {c d : Bool} (h : a = b) (g : c = d) : Ending.returned (.tuple #[.int .i64 a, .bool c]) = .returned (.tuple #[.int .i64 b, .bool d]) := by rw [h, g]

theorem head_of (s : ByteArray) (hp : 0 < s.size) : s.data.toList.head? = some s[0] := by
  rw [List.head?_eq_getElem?, List.getElem?_eq_getElem (by simpa using hp)]; rfl
theorem drop_of (s : ByteArray) (k : Nat) : (s.extract k s.size).data.toList = s.data.toList.drop k := Lib.extract_to_end s k

set_option maxHeartbeats 1000000 in
theorem number_pos (s : ByteArray) (w : World) (hs : s.size ≤ 18) (hp : 0 < s.size) (h0 : ((s[0].toNat : Int) == 45) = false) :
    Calls Tryd.prog 38 #[.string s] w fun e w' => e = .returned (.tuple #[.int .i64 (numN s.data.toList), .bool (numS s.data.toList)]) ∧ w' = w := by
  have hne : ¬ s = ByteArray.empty := by rintro rfl; simp at hp
  have h1 : ((s.size : Int) == 0) = false := by simp; omega
  have hv : numV s.data.toList = (bodyV s.data.toList).map (fun n : Nat => (n : Int)) := by
    unfold numV
    rw [head_of s hp, if_neg]
    intro e
    have e : s[0] = 45 := Option.some.inj e
    rw [e] at h0
    simp at h0
  have hbv : bodyV s.data.toList = if s.data.toList.all isDigB then some (dval 0 s.data.toList) else none := by
    unfold bodyV
    rw [if_neg]
    rw [len_of]
    rintro (e | e)
    · have := len_of s
      rw [e] at this
      simp at this
      omega
    · omega
  have HV : Hid (numV s.data.toList = (bodyV s.data.toList).map (fun n : Nat => (n : Int))) := hv
  have HB : Hid (bodyV s.data.toList = if s.data.toList.all isDigB then some (dval 0 s.data.toList) else none) := hbv
  clear hv hbv
  go_enter Tryd.func38, Tryd.ntmps38
  go_wp2_with fail
  go_loop [5, 6] (fun n i => ∃ k : Nat, k ≤ s.size ∧ i = .int .i64 k ∧ ∃ u : Int, n = .int .i64 u ∧ Hid (((dval 0 (s.data.toList.take k) : Nat) : Int) = u ∧ (s.data.toList.take k).all isDigB = true)) (fun _ i => s.size - (intOf i).toNat)
  case atStart => exact ⟨0, Nat.zero_le _, rfl, 0, rfl, rfl, rfl⟩
  case round =>
    obtain ⟨k, hk, rfl, u, rfl, hd⟩ := hrel
    by_cases hlt : k < s.size
    · have hu : Hid (dval 0 (s.data.toList.take (k + 1)) = dval 0 (s.data.toList.take k) * 10 + (s[k].toNat - 48)) := by rw [tk_snoc s k hlt]; exact dval_snoc _ _ _
      have ha : Hid ((s.data.toList.take (k + 1)).all isDigB = ((s.data.toList.take k).all isDigB && isDigB s[k])) := by rw [tk_snoc s k hlt]; simp [Hid]
      have hb := dval_lt (s.data.toList.take k) hd.out.2
      have hl : (s.data.toList.take k).length = k := by rw [List.length_take, len_of]; omega
      have hq : (10 : Nat) ^ k ≤ 10 ^ 17 := Nat.pow_le_pow_right (by omega) (by omega)
      have h17 : (10 : Nat) ^ 17 = 100000000000000000 := by decide
      have hu1 : u < 100000000000000000 := by
        have := hd.out.1
        rw [hl] at hb
        omega
      have hu0 : 0 ≤ u := by
        have := hd.out.1
        omega
      have hx : (s[k].toNat : Int) ≤ 255 := by
        have := s[k].toNat_lt
        omega
      have hm : Hid (s[k] ∈ s.data.toList) := by
        show s[k] ∈ s.data.toList
        exact List.getElem_mem (l := s.data.toList) (by simpa using hlt)
      clear hb hl hq h17
      by_cases c1 : 48 ≤ (s[k].toNat : Int)
      · by_cases c2 : (s[k].toNat : Int) ≤ 57
        · have hg : Hid (isDigB s[k] = true) := by show isDigB s[k] = true; simp only [isDigB, decide_eq_true_eq]; omega
          go_wp2_with fail
          go_round
          case rel => exact ⟨k + 1, by omega, by go_num, _, rfl, by rw [hu.out]; have := hd.out.1; omega, by rw [ha.out, hd.out.2, hg.out]; rfl⟩
          case measure => simp [intOf]; omega
        · have c3 : decide ((57 : Int) < (s[k].toNat : Int)) = true := by simp; omega
          have hg : isDigB s[k] = false := by simp only [isDigB, decide_eq_false_iff_not]; omega
          have hall : Hid (s.data.toList.all isDigB = false) := by
            show s.data.toList.all isDigB = false
            rw [List.all_eq_false]
            exact ⟨_, hm.out, by rw [hg]; simp⟩
          clear hg hm hu ha hd
          go_wp2_with fail
          go_ret2
          exact ⟨ret_num (by unfold numN; rw [HV.out, HB.out, hall.out]; rfl) (by unfold numS; rw [HV.out, HB.out, hall.out]; rfl), rfl⟩
      · have c1' : (s[k].toNat : Int) < 48 := by omega
        have hg : isDigB s[k] = false := by simp only [isDigB, decide_eq_false_iff_not]; omega
        have hall : Hid (s.data.toList.all isDigB = false) := by
          show s.data.toList.all isDigB = false
          rw [List.all_eq_false]
          exact ⟨_, hm.out, by rw [hg]; simp⟩
        clear hg hm hu ha hd c1
        go_wp2_with fail
        go_ret2
        exact ⟨ret_num (by unfold numN; rw [HV.out, HB.out, hall.out]; rfl) (by unfold numS; rw [HV.out, HB.out, hall.out]; rfl), rfl⟩
    · have ek : s.data.toList.take k = s.data.toList := List.take_of_length_le (by rw [len_of]; omega)
      rw [ek] at hd
      clear ek
      have hb := dval_lt s.data.toList hd.out.2
      rw [len_of] at hb
      have hq : (10 : Nat) ^ s.size ≤ 10 ^ 18 := Nat.pow_le_pow_right (by omega) (by omega)
      have h18 : (10 : Nat) ^ 18 = 1000000000000000000 := by decide
      have hu1 : u < 1000000000000000000 := by
        have := hd.out.1
        omega
      have hu0 : 0 ≤ u := by
        have := hd.out.1
        omega
      clear hb hq h18
      go_wp2_with fail
      go_ret2
      exact ⟨ret_num (by unfold numN; rw [HV.out, HB.out, hd.out.2]; exact hd.out.1.symm) (by unfold numS; rw [HV.out, HB.out, hd.out.2]; rfl), rfl⟩

set_option maxHeartbeats 1000000 in
theorem number_neg (s : ByteArray) (w : World) (hs : s.size ≤ 19) (hp : 1 < s.size) (h0 : ((s[0].toNat : Int) == 45) = true) :
    Calls Tryd.prog 38 #[.string s] w fun e w' => e = .returned (.tuple #[.int .i64 (numN s.data.toList), .bool (numS s.data.toList)]) ∧ w' = w := by
  have hne : ¬ s = ByteArray.empty := by rintro rfl; simp at hp
  have h1 : ((s.size : Int) == 0) = false := by simp; omega
  have h2 : (((s.size - 1 : Nat) : Int) == 0) = false := by simp; omega
  have h3 : ¬ s.size - 1 = 0 := by omega
  have h4 : ((s.size - 1 : Nat) : Int) ≤ 18 := by omega
  have hdr := drop_of s 1
  have hsz : (s.extract 1 s.size).size = s.size - 1 := by simp
  have hv : numV s.data.toList = (bodyV (s.extract 1 s.size).data.toList).map (fun n : Nat => -(n : Int)) := by
    unfold numV
    rw [head_of s (by omega), if_pos, hdr]
    have e : (s[0].toNat : Int) = 45 := by simpa using h0
    have e : s[0].toNat = 45 := by omega
    rw [UInt8.toNat_inj.1 (show s[0].toNat = (45 : UInt8).toNat from e)]
  have hbv : bodyV (s.extract 1 s.size).data.toList = if (s.extract 1 s.size).data.toList.all isDigB then some (dval 0 (s.extract 1 s.size).data.toList) else none := by
    unfold bodyV
    rw [if_neg]
    rw [len_of]
    rintro (e | e)
    · have := len_of (s.extract 1 s.size)
      rw [e] at this
      simp at this
      omega
    · omega
  have HV : Hid (numV s.data.toList = (bodyV (s.extract 1 s.size).data.toList).map (fun n : Nat => -(n : Int))) := hv
  have HB : Hid (bodyV (s.extract 1 s.size).data.toList = if (s.extract 1 s.size).data.toList.all isDigB then some (dval 0 (s.extract 1 s.size).data.toList) else none) := hbv
  have HZ : Hid ((s.extract 1 s.size).size = s.size - 1) := hsz
  clear hv hbv hdr hsz
  go_enter Tryd.func38, Tryd.ntmps38
  go_wp2_with fail
  generalize s.extract 1 s.size = t at *
  have hts : t.size ≤ 18 := by have := HZ.out; omega
  clear h0 h1 h2 h3 h4 hs hne
  go_loop [5, 6] (fun n i => ∃ k : Nat, k ≤ t.size ∧ i = .int .i64 k ∧ ∃ u : Int, n = .int .i64 u ∧ Hid (((dval 0 (t.data.toList.take k) : Nat) : Int) = u ∧ (t.data.toList.take k).all isDigB = true)) (fun _ i => t.size - (intOf i).toNat)
  case atStart => exact ⟨0, Nat.zero_le _, rfl, 0, rfl, rfl, rfl⟩
  case round =>
    obtain ⟨k, hk, rfl, u, rfl, hd⟩ := hrel
    by_cases hlt : k < t.size
    · have hu : Hid (dval 0 (t.data.toList.take (k + 1)) = dval 0 (t.data.toList.take k) * 10 + (t[k].toNat - 48)) := by rw [tk_snoc t k hlt]; exact dval_snoc _ _ _
      have ha : Hid ((t.data.toList.take (k + 1)).all isDigB = ((t.data.toList.take k).all isDigB && isDigB t[k])) := by rw [tk_snoc t k hlt]; simp [Hid]
      have hb := dval_lt (t.data.toList.take k) hd.out.2
      have hl : (t.data.toList.take k).length = k := by rw [List.length_take, len_of]; omega
      have hq : (10 : Nat) ^ k ≤ 10 ^ 17 := Nat.pow_le_pow_right (by omega) (by omega)
      have h17 : (10 : Nat) ^ 17 = 100000000000000000 := by decide
      have hu1 : u < 100000000000000000 := by
        have := hd.out.1
        rw [hl] at hb
        omega
      have hu0 : 0 ≤ u := by
        have := hd.out.1
        omega
      have hx : (t[k].toNat : Int) ≤ 255 := by
        have := t[k].toNat_lt
        omega
      have hm : Hid (t[k] ∈ t.data.toList) := by
        show t[k] ∈ t.data.toList
        exact List.getElem_mem (l := t.data.toList) (by simpa using hlt)
      clear hb hl hq h17
      by_cases c1 : 48 ≤ (t[k].toNat : Int)
      · by_cases c2 : (t[k].toNat : Int) ≤ 57
        · have hg : Hid (isDigB t[k] = true) := by show isDigB t[k] = true; simp only [isDigB, decide_eq_true_eq]; omega
          go_wp2_with fail
          go_round
          case rel => exact ⟨k + 1, by omega, by go_num, _, rfl, by rw [hu.out]; have := hd.out.1; omega, by rw [ha.out, hd.out.2, hg.out]; rfl⟩
          case measure => simp [intOf]; omega
        · have c3 : decide ((57 : Int) < (t[k].toNat : Int)) = true := by simp; omega
          have hg : isDigB t[k] = false := by simp only [isDigB, decide_eq_false_iff_not]; omega
          have hall : Hid (t.data.toList.all isDigB = false) := by
            show t.data.toList.all isDigB = false
            rw [List.all_eq_false]
            exact ⟨_, hm.out, by rw [hg]; simp⟩
          clear hg hm hu ha hd
          go_wp2_with fail
          go_ret2
          exact ⟨ret_num (by unfold numN; rw [HV.out, HB.out, hall.out]; rfl) (by unfold numS; rw [HV.out, HB.out, hall.out]; rfl), rfl⟩
      · have c1' : (t[k].toNat : Int) < 48 := by omega
        have hg : isDigB t[k] = false := by simp only [isDigB, decide_eq_false_iff_not]; omega
        have hall : Hid (t.data.toList.all isDigB = false) := by
          show t.data.toList.all isDigB = false
          rw [List.all_eq_false]
          exact ⟨_, hm.out, by rw [hg]; simp⟩
        clear hg hm hu ha hd c1
        go_wp2_with fail
        go_ret2
        exact ⟨ret_num (by unfold numN; rw [HV.out, HB.out, hall.out]; rfl) (by unfold numS; rw [HV.out, HB.out, hall.out]; rfl), rfl⟩
    · have ek : t.data.toList.take k = t.data.toList := List.take_of_length_le (by rw [len_of]; omega)
      rw [ek] at hd
      clear ek
      have hb := dval_lt t.data.toList hd.out.2
      rw [len_of] at hb
      have hq : (10 : Nat) ^ t.size ≤ 10 ^ 18 := Nat.pow_le_pow_right (by omega) (by omega)
      have h18 : (10 : Nat) ^ 18 = 1000000000000000000 := by decide
      have hu1 : u < 1000000000000000000 := by
        have := hd.out.1
        omega
      have hu0 : 0 ≤ u := by
        have := hd.out.1
        omega
      clear hb hq h18
      go_wp2_with fail
      go_ret2
      exact ⟨ret_num (by unfold numN; rw [HV.out, HB.out, hd.out.2]; have := hd.out.1; simp; omega) (by unfold numS; rw [HV.out, HB.out, hd.out.2]; rfl), rfl⟩

theorem number_none (s : ByteArray) (w : World) (hbig : s.size ≤ 9223372036854775807) (h : s.size = 0 ∨ (∃ hp : 0 < s.size, (s[0].toNat : Int) ≠ 45 ∧ 18 < s.size) ∨ (∃ hp : 0 < s.size, (s[0].toNat : Int) = 45 ∧ (s.size = 1 ∨ 19 < s.size))) :
    Calls Tryd.prog 38 #[.string s] w fun e w' => e = .returned (.tuple #[.int .i64 (numN s.data.toList), .bool (numS s.data.toList)]) ∧ w' = w := by
  have hv : numV s.data.toList = none := by
    unfold numV
    rcases h with h | ⟨hp, h0, h⟩ | ⟨hp, h0, h⟩
    · have : s.data.toList = [] := List.length_eq_zero_iff.1 (by rw [len_of]; exact h)
      rw [this]
      rfl
    · rw [head_of s hp, if_neg (by intro e; have e : s[0] = 45 := Option.some.inj e; rw [e] at h0; exact h0 rfl)]
      unfold bodyV
      rw [if_pos (.inr (by rw [len_of]; exact h))]
      rfl
    · have e : s[0].toNat = 45 := by omega
      rw [head_of s hp, if_pos (by rw [UInt8.toNat_inj.1 (show s[0].toNat = (45 : UInt8).toNat from e)])]
      unfold bodyV
      rw [if_pos]
      · rfl
      · rcases h with h | h
        · left
          exact List.length_eq_zero_iff.1 (by rw [List.length_drop, len_of]; omega)
        · right
          rw [List.length_drop, len_of]
          omega
  have e1 : numN s.data.toList = 0 := by unfold numN; rw [hv]; rfl
  have e2 : numS s.data.toList = false := by unfold numS; rw [hv]; rfl
  rw [e1, e2]
  clear e1 e2 hv
  rcases h with h | ⟨hp, h0, h⟩ | ⟨hp, h0, h⟩
  · obtain rfl : s = ByteArray.empty := by
      apply ByteArray.ext
      exact Array.eq_empty_of_size_eq_zero h
    go_enter Tryd.func38, Tryd.ntmps38
    go_wp2_with fail
    go_ret2
    exact ⟨rfl, rfl⟩
  · have hne : ¬ s = ByteArray.empty := by rintro rfl; simp at hp
    have h1 : ((s.size : Int) == 0) = false := by simp; omega
    have h0 : ((s[0].toNat : Int) == 45) = false := by simpa using h0
    go_enter Tryd.func38, Tryd.ntmps38
    go_wp2_with fail
    go_ret2
    exact ⟨rfl, rfl⟩
  · have hne : ¬ s = ByteArray.empty := by rintro rfl; simp at hp
    have h0 : ((s[0].toNat : Int) == 45) = true := by simpa using h0
    rcases h with h | h
    · go_enter Tryd.func38, Tryd.ntmps38
      go_wp2_with fail
      go_ret2
      exact ⟨rfl, rfl⟩
    · have h1 : (((s.size - 1 : Nat) : Int) == 0) = false := by simp; omega
      have h3 : ¬ s.size - 1 = 0 := by omega
      have h4 : (18 : Int) < ((s.size - 1 : Nat) : Int) := by omega
      go_enter Tryd.func38, Tryd.ntmps38
      go_wp2_with fail
      go_ret2
      exact ⟨rfl, rfl⟩

theorem numberR_any (s : ByteArray) (w : World) (hbig : s.size ≤ 9223372036854775807) :
    Calls Tryd.prog 38 #[.string s] w fun e w' => e = .returned (.tuple #[.int .i64 (numN s.data.toList), .bool (numS s.data.toList)]) ∧ w' = w := by
  by_cases hp : 0 < s.size
  · by_cases h0 : (s[0].toNat : Int) = 45
    · by_cases h : s.size = 1 ∨ 19 < s.size
      · exact number_none s w hbig (.inr (.inr ⟨hp, h0, h⟩))
      · exact number_neg s w (by omega) (by omega) (by simpa using h0)
    · by_cases h : 18 < s.size
      · exact number_none s w hbig (.inr (.inl ⟨hp, h0, h⟩))
      · exact number_pos s w (by omega) hp (by simpa using h0)
  · exact number_none s w hbig (.inl (by omega))
end Go.Proofs.YtaagfiebcnnjjaaDoor
