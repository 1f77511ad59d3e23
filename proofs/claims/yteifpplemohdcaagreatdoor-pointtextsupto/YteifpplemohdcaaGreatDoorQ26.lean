/-
  The document's Decimal of every text: the walk.
-/
import Derived.Test.YteifpplemohdcaaGreatDoorQ9
namespace Go.Proofs.YteifpplemohdcaaGreatDoor
open Go.RowKit Go.Shelf
set_option linter.unusedVariables false
theorem len_of (s : ByteArray) : s.data.toList.length = s.size := by simp
theorem ret_num {a b : Int} {c d : Bool} (h : a = b) (g : c = d) : Ending.returned (.tuple #[.int .i64 a, .bool c]) = .returned (.tuple #[.int .i64 b, .bool d]) := by rw [h, g]
theorem head_of (s : ByteArray) (hp : 0 < s.size) : s.data.toList.head? = some s[0] := by
  rw [List.head?_eq_getElem?]
  have : 0 < s.data.toList.length := by simpa using hp
  rw [List.getElem?_eq_getElem this]
  rfl
theorem drop_next (s : ByteArray) (k : Nat) (h : k < s.size) : s.data.toList.drop k = s[k] :: s.data.toList.drop (k + 1) := by
  have : k < s.data.toList.length := by simpa using h
  rw [List.drop_eq_getElem_cons this]
  rfl
set_option maxRecDepth 100000 in
set_option maxHeartbeats 2000000 in
theorem dec_pos (s : ByteArray) (w : World) (hs : s.size ≤ 140737488355328) (hp : 0 < s.size) (h0 : ((s[0].toNat : Int) == 45) = false) :
    Calls Tryz.prog 30 #[.string s] w fun e w' => e = .returned (.tuple #[.int .i64 (decT s.data.toList).1, .bool (decT s.data.toList).2]) ∧ ∃ m, w' = w.drewN m := by
  have hz : 0 < s.size := by omega
  have hne : ¬ s = ByteArray.empty := by rintro rfl; simp at hz
  have h1 : ((s.size : Int) == 0) = false := by simp; omega
  have h2 : ((0 : Int) == (s.size : Int)) = false := by simp; omega
  have h3 : (0 : Int) < (s.size : Int) := by omega
  have HV : Hid (decT s.data.toList = match decU (s.data.toList.drop 0) 0 with | none => (0, false) | some n => (IntKind.i64.wrap (n : Int), decide (n < 9223372036854775808))) := by
    show _ = _
    unfold decT decP
    rw [head_of s hp, if_neg, if_neg]
    · rfl
    · intro e
      have := len_of s
      rw [e] at this
      simp at this
      omega
    · intro e
      have e : s[0] = 45 := Option.some.inj e
      rw [e] at h0
      simp at h0
  have DN : Hid (∀ k (h : k < s.size), s.data.toList.drop k = s[k] :: s.data.toList.drop (k + 1)) := fun k h => drop_next s k h
  have DE : Hid (s.data.toList.drop s.size = []) := by show _ = _; rw [← len_of s]; exact List.drop_length
  go_enter Tryz.func30, Tryz.ntmps30
  go_wp2_with fail
  go_loopw [6, 7] (fun n i wr => ∃ (k u m : Nat), k ≤ s.size ∧ i = .int .i64 k ∧ n = .int .u64 u ∧ u ≤ 9223372036854775809 ∧ wr = w.drewN m ∧ Hid (decU (s.data.toList.drop 0) 0 = decU (s.data.toList.drop k) u)) (fun _ i _ => s.size - (intOf i).toNat)
  case atStart => exact ⟨0, 0, 0, by omega, rfl, rfl, by omega, rfl, rfl⟩
  case round =>
    obtain ⟨k, u, m, hk, rfl, rfl, hu, rfl, hd⟩ := hrel
    by_cases hlt : k < s.size
    · have hx : (s[k].toNat : Int) ≤ 255 := by have := s[k].toNat_lt; omega
      have NX : Hid (decU (s.data.toList.drop 0) 0 = if isDigB s[k] && decide (u ≤ 922337203685477580) then decU (s.data.toList.drop (k + 1)) (u * 10 + (s[k].toNat - 48)) else none) := by
        show _ = _
        rw [hd.out, DN.out k hlt, decU]
      have k0 : (0 : Int) ≤ (k : Int) := by omega
      have k1 : (k : Int) < (s.size : Int) := by omega
      clear hd
      by_cases c1 : 48 ≤ (s[k].toNat : Int)
      · by_cases c2 : (s[k].toNat : Int) ≤ 57
        · by_cases c3 : (u : Int) ≤ 922337203685477580
          · have R : Hid (decU (s.data.toList.drop 0) 0 = decU (s.data.toList.drop (k + 1)) (u * 10 + (s[k].toNat - 48))) := by
              show _ = _
              rw [NX.out, if_pos (by simp [isDigB]; omega)]
            have d1 : decide ((s[k].toNat : Int) < 48) = false := by simp; omega
            have d2 : decide ((57 : Int) < (s[k].toNat : Int)) = false := by simp; omega
            have d3 : decide ((922337203685477580 : Int) < (u : Int)) = false := by simp; omega
            have e1 : IntKind.u64.wrap ((u : Int) * 10) = (u : Int) * 10 := by rw [IntKind.wrap_u64]; omega
            have e2 : IntKind.u8.wrap ((s[k].toNat : Int) - 48) = (s[k].toNat : Int) - 48 := by simp only [IntKind.wrap_u8]; omega
            have e3 : IntKind.u64.wrap ((s[k].toNat : Int) - 48) = (s[k].toNat : Int) - 48 := by rw [IntKind.wrap_u64]; omega
            have e4 : IntKind.u64.wrap ((u : Int) * 10 + ((s[k].toNat : Int) - 48)) = ((u * 10 + (s[k].toNat - 48) : Nat) : Int) := by rw [IntKind.wrap_u64]; omega
            have U1 : Hid (u * 10 + (s[k].toNat - 48) ≤ 9223372036854775809) := by show _ ≤ _; omega
            clear NX
            go_wp2_with fail
            go_roundw
            case rel => exact ⟨k + 1, u * 10 + (s[k].toNat - 48), m, by omega, by go_num, by first | rfl | go_num | (congr 1; omega), U1.out, rfl, R⟩
            case measure => simp [intOf]; omega
          · have R : Hid (decU (s.data.toList.drop 0) 0 = none) := by
              show _ = _
              rw [NX.out, if_neg (by simp [isDigB]; omega)]
            have d1 : decide ((s[k].toNat : Int) < 48) = false := by simp; omega
            have d2 : decide ((57 : Int) < (s[k].toNat : Int)) = false := by simp; omega
            have d3 : decide ((922337203685477580 : Int) < (u : Int)) = true := by simp; omega
            clear NX
            go_wp2_with fail
            go_ret2
            exact ⟨ret_num (by rw [HV.out, R.out]) (by rw [HV.out, R.out]), _, rfl⟩
        · have R : Hid (decU (s.data.toList.drop 0) 0 = none) := by
            show _ = _
            rw [NX.out, if_neg (by simp [isDigB]; omega)]
          have d1 : decide ((s[k].toNat : Int) < 48) = false := by simp; omega
          have d2 : decide ((57 : Int) < (s[k].toNat : Int)) = true := by simp; omega
          clear NX
          go_wp2_with fail
          go_ret2
          exact ⟨ret_num (by rw [HV.out, R.out]) (by rw [HV.out, R.out]), _, rfl⟩
      · have R : Hid (decU (s.data.toList.drop 0) 0 = none) := by
          show _ = _
          rw [NX.out, if_neg (by simp [isDigB]; omega)]
        have d1 : decide ((s[k].toNat : Int) < 48) = true := by simp; omega
        clear NX
        go_wp2_with fail
        go_ret2
        exact ⟨ret_num (by rw [HV.out, R.out]) (by rw [HV.out, R.out]), _, rfl⟩
    · have e : k = s.size := by omega
      have R : Hid (decU (s.data.toList.drop 0) 0 = some u) := by
        show _ = _
        rw [hd.out, e, DE.out]
        rfl
      have k1 : decide ((k : Int) < (s.size : Int)) = false := by simp; omega
      have d1 : decide ((u : Int) < 9223372036854775808) = decide (u < 9223372036854775808) := by congr 1; simp; omega
      clear hd e
      go_wp2_with fail
      go_ret2
      exact ⟨ret_num (by rw [HV.out, R.out]; first | rfl | simp [wrap64, IntKind.wrap_i64]) (by rw [HV.out, R.out]), _, rfl⟩
set_option maxRecDepth 100000 in
set_option maxHeartbeats 2000000 in
theorem dec_neg (s : ByteArray) (w : World) (hs : s.size ≤ 140737488355328) (hp : 1 < s.size) (h0 : ((s[0].toNat : Int) == 45) = true) :
    Calls Tryz.prog 30 #[.string s] w fun e w' => e = .returned (.tuple #[.int .i64 (decT s.data.toList).1, .bool (decT s.data.toList).2]) ∧ ∃ m, w' = w.drewN m := by
  have hz : 0 < s.size := by omega
  have hne : ¬ s = ByteArray.empty := by rintro rfl; simp at hz
  have h1 : ((s.size : Int) == 0) = false := by simp; omega
  have h2 : ((1 : Int) == (s.size : Int)) = false := by simp; omega
  have h3 : (0 : Int) < (s.size : Int) := by omega
  have HV : Hid (decT s.data.toList = match decU (s.data.toList.drop 1) 0 with | none => (0, false) | some n => (IntKind.i64.wrap (IntKind.u64.wrap (-(n : Int))), decide (n ≤ 9223372036854775808))) := by
    show _ = _
    unfold decT decM
    rw [head_of s (by omega), if_pos, if_neg]
    · rfl
    · intro e
      have h : (s.data.toList.drop 1).length = 0 := by rw [e]; rfl
      rw [List.length_drop, len_of] at h
      omega
    · have e : s[0] = 45 := by
        have h : (s[0].toNat : Int) = 45 := by simpa using h0
        apply UInt8.toNat_inj.1
        have : (45 : UInt8).toNat = 45 := rfl
        omega
      rw [e]
  have DN : Hid (∀ k (h : k < s.size), s.data.toList.drop k = s[k] :: s.data.toList.drop (k + 1)) := fun k h => drop_next s k h
  have DE : Hid (s.data.toList.drop s.size = []) := by show _ = _; rw [← len_of s]; exact List.drop_length
  go_enter Tryz.func30, Tryz.ntmps30
  go_wp2_with fail
  go_loopw [6, 7] (fun n i wr => ∃ (k u m : Nat), k ≤ s.size ∧ i = .int .i64 k ∧ n = .int .u64 u ∧ u ≤ 9223372036854775809 ∧ wr = w.drewN m ∧ Hid (decU (s.data.toList.drop 1) 0 = decU (s.data.toList.drop k) u)) (fun _ i _ => s.size - (intOf i).toNat)
  case atStart => exact ⟨1, 0, 0, by omega, rfl, rfl, by omega, rfl, rfl⟩
  case round =>
    obtain ⟨k, u, m, hk, rfl, rfl, hu, rfl, hd⟩ := hrel
    by_cases hlt : k < s.size
    · have hx : (s[k].toNat : Int) ≤ 255 := by have := s[k].toNat_lt; omega
      have NX : Hid (decU (s.data.toList.drop 1) 0 = if isDigB s[k] && decide (u ≤ 922337203685477580) then decU (s.data.toList.drop (k + 1)) (u * 10 + (s[k].toNat - 48)) else none) := by
        show _ = _
        rw [hd.out, DN.out k hlt, decU]
      have k0 : (0 : Int) ≤ (k : Int) := by omega
      have k1 : (k : Int) < (s.size : Int) := by omega
      clear hd
      by_cases c1 : 48 ≤ (s[k].toNat : Int)
      · by_cases c2 : (s[k].toNat : Int) ≤ 57
        · by_cases c3 : (u : Int) ≤ 922337203685477580
          · have R : Hid (decU (s.data.toList.drop 1) 0 = decU (s.data.toList.drop (k + 1)) (u * 10 + (s[k].toNat - 48))) := by
              show _ = _
              rw [NX.out, if_pos (by simp [isDigB]; omega)]
            have d1 : decide ((s[k].toNat : Int) < 48) = false := by simp; omega
            have d2 : decide ((57 : Int) < (s[k].toNat : Int)) = false := by simp; omega
            have d3 : decide ((922337203685477580 : Int) < (u : Int)) = false := by simp; omega
            have e1 : IntKind.u64.wrap ((u : Int) * 10) = (u : Int) * 10 := by rw [IntKind.wrap_u64]; omega
            have e2 : IntKind.u8.wrap ((s[k].toNat : Int) - 48) = (s[k].toNat : Int) - 48 := by simp only [IntKind.wrap_u8]; omega
            have e3 : IntKind.u64.wrap ((s[k].toNat : Int) - 48) = (s[k].toNat : Int) - 48 := by rw [IntKind.wrap_u64]; omega
            have e4 : IntKind.u64.wrap ((u : Int) * 10 + ((s[k].toNat : Int) - 48)) = ((u * 10 + (s[k].toNat - 48) : Nat) : Int) := by rw [IntKind.wrap_u64]; omega
            have U1 : Hid (u * 10 + (s[k].toNat - 48) ≤ 9223372036854775809) := by show _ ≤ _; omega
            clear NX
            go_wp2_with fail
            go_roundw
            case rel => exact ⟨k + 1, u * 10 + (s[k].toNat - 48), m, by omega, by go_num, by first | rfl | go_num | (congr 1; omega), U1.out, rfl, R⟩
            case measure => simp [intOf]; omega
          · have R : Hid (decU (s.data.toList.drop 1) 0 = none) := by
              show _ = _
              rw [NX.out, if_neg (by simp [isDigB]; omega)]
            have d1 : decide ((s[k].toNat : Int) < 48) = false := by simp; omega
            have d2 : decide ((57 : Int) < (s[k].toNat : Int)) = false := by simp; omega
            have d3 : decide ((922337203685477580 : Int) < (u : Int)) = true := by simp; omega
            clear NX
            go_wp2_with fail
            go_ret2
            exact ⟨ret_num (by rw [HV.out, R.out]) (by rw [HV.out, R.out]), _, rfl⟩
        · have R : Hid (decU (s.data.toList.drop 1) 0 = none) := by
            show _ = _
            rw [NX.out, if_neg (by simp [isDigB]; omega)]
          have d1 : decide ((s[k].toNat : Int) < 48) = false := by simp; omega
          have d2 : decide ((57 : Int) < (s[k].toNat : Int)) = true := by simp; omega
          clear NX
          go_wp2_with fail
          go_ret2
          exact ⟨ret_num (by rw [HV.out, R.out]) (by rw [HV.out, R.out]), _, rfl⟩
      · have R : Hid (decU (s.data.toList.drop 1) 0 = none) := by
          show _ = _
          rw [NX.out, if_neg (by simp [isDigB]; omega)]
        have d1 : decide ((s[k].toNat : Int) < 48) = true := by simp; omega
        clear NX
        go_wp2_with fail
        go_ret2
        exact ⟨ret_num (by rw [HV.out, R.out]) (by rw [HV.out, R.out]), _, rfl⟩
    · have e : k = s.size := by omega
      have R : Hid (decU (s.data.toList.drop 1) 0 = some u) := by
        show _ = _
        rw [hd.out, e, DE.out]
        rfl
      have k1 : decide ((k : Int) < (s.size : Int)) = false := by simp; omega
      have d1 : decide ((u : Int) ≤ 9223372036854775808) = decide (u ≤ 9223372036854775808) := by congr 1; simp; omega
      clear hd e
      go_wp2_with fail
      go_ret2
      exact ⟨ret_num (by rw [HV.out, R.out]; first | rfl | simp [wrap64, IntKind.wrap_i64]) (by rw [HV.out, R.out]), _, rfl⟩
theorem dec_empty (s : ByteArray) (w : World) (h : s.size = 0) :
    Calls Tryz.prog 30 #[.string s] w fun e w' => e = .returned (.tuple #[.int .i64 (decT s.data.toList).1, .bool (decT s.data.toList).2]) ∧ ∃ m, w' = w.drewN m := by
  have e : s.data.toList = [] := List.length_eq_zero_iff.1 (by rw [len_of]; exact h)
  have hv : decT s.data.toList = (0, false) := by rw [e]; simp [decT, decP]
  rw [hv]
  clear hv e
  go_enter Tryz.func30, Tryz.ntmps30
  go_wp2_with fail
  go_ret2
  exact ⟨rfl, 0, rfl⟩
theorem dec_minus (s : ByteArray) (w : World) (h : s.size = 1) (h0 : ((s[0].toNat : Int) == 45) = true) :
    Calls Tryz.prog 30 #[.string s] w fun e w' => e = .returned (.tuple #[.int .i64 (decT s.data.toList).1, .bool (decT s.data.toList).2]) ∧ ∃ m, w' = w.drewN m := by
  have hv : decT s.data.toList = (0, false) := by
    have e : s.data.toList.drop 1 = [] := List.length_eq_zero_iff.1 (by rw [List.length_drop, len_of]; omega)
    have q : s[0] = 45 := by
      have h : (s[0].toNat : Int) = 45 := by simpa using h0
      apply UInt8.toNat_inj.1
      have : (45 : UInt8).toNat = 45 := rfl
      omega
    unfold decT
    rw [head_of s (by omega), q, if_pos rfl, e]
    rfl
  rw [hv]
  have h2 : ((1 : Int) == (s.size : Int)) = true := by simp; omega
  have h3 : (0 : Int) < (s.size : Int) := by omega
  have hne : ¬ s = ByteArray.empty := by rintro rfl; simp at h
  have h1 : ((s.size : Int) == 0) = false := by simp; omega
  clear hv
  go_enter Tryz.func30, Tryz.ntmps30
  go_wp2_with fail
  go_ret2
  exact ⟨rfl, 0, rfl⟩
theorem dec_any (m : List UInt8) (w : World) (hs : m.length ≤ 140737488355328) :
    Calls Tryz.prog 30 #[.string ⟨m.toArray⟩] w fun e w' => e = .returned (.tuple #[.int .i64 (decT m).1, .bool (decT m).2]) ∧ Below w.heap.size w w' := by
  have sz : (⟨m.toArray⟩ : ByteArray).size = m.length := by show m.toArray.size = _; simp
  have k : Calls Tryz.prog 30 #[.string ⟨m.toArray⟩] w fun e w' => e = .returned (.tuple #[.int .i64 (decT (⟨m.toArray⟩ : ByteArray).data.toList).1, .bool (decT (⟨m.toArray⟩ : ByteArray).data.toList).2]) ∧ ∃ m, w' = w.drewN m := by
    by_cases z : (⟨m.toArray⟩ : ByteArray).size = 0
    · exact dec_empty _ w z
    · have hp : 0 < (⟨m.toArray⟩ : ByteArray).size := by omega
      by_cases c : (((⟨m.toArray⟩ : ByteArray)[0].toNat : Int) == 45) = true
      · by_cases o : (⟨m.toArray⟩ : ByteArray).size = 1
        · exact dec_minus _ w o c
        · exact dec_neg _ w (by omega) (by omega) c
      · exact dec_pos _ w (by omega) hp (by simpa using c)
  refine k.mono ?_
  rintro e w' ⟨rfl, n, rfl⟩
  exact ⟨rfl, below_drewN (Below.refl _ _) _⟩
end Go.Proofs.YteifpplemohdcaaGreatDoor
