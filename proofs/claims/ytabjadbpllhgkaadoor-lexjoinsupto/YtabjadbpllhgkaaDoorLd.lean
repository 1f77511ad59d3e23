/-
  The document's begin.
-/
import Derived.Test.YtabjadbpllhgkaaDoorLc
namespace Go.Proofs.YtabjadbpllhgkaaDoor
open Go.RowKit
set_option linter.unusedVariables false
theorem span_drop (s : ByteArray) (k : Nat) (h : k < s.size) : (feedI (s[k].toNat : Int) = true → spanL feedI (s.data.toList.drop k) = spanL feedI (s.data.toList.drop (k + 1)) + 1) ∧ (feedI (s[k].toNat : Int) = false → spanL feedI (s.data.toList.drop k) = 0) := by
  have d := drop_next s k h
  exact ⟨fun g => by rw [d, spanL, if_pos g], fun g => by rw [d, spanL, if_neg (by rw [g]; decide)]⟩
set_option maxRecDepth 100000 in
set_option maxHeartbeats 1000000 in
theorem begin_any (s : ByteArray) (a : Nat) (w : World) (ha : a ≤ s.size) (hs : s.size ≤ 140737488355328) : Calls Tryd.prog 23 #[.string s, .int .i64 a] w fun e w' => e = .returned (.int .i64 ((a + skipM false (s.data.toList.drop a) : Nat))) ∧ w' = w := by
  have ST : Hid (∀ k (h : k < s.size), _) := fun k h => skip_step s k h
  have SD : Hid (∀ k (h : k < s.size), _) := fun k h => span_drop s k h
  have LE : Hid (∀ k, spanL feedI (s.data.toList.drop k) ≤ s.size - k) := fun k => by have := span_le feedI (s.data.toList.drop k); rw [List.length_drop, len_of] at this; exact this
  have DE : Hid (skipM false (s.data.toList.drop s.size) = 0) := by show _ = _; rw [← len_of s, List.drop_length]; rfl
  go_enter Tryd.func23, Tryd.ntmps23
  go_wp2_with fail
  go_loopw [1] (fun i wr => ∃ (k : Nat), k ≤ s.size ∧ i = .int .i64 k ∧ wr = w ∧ Hid (a + skipM false (s.data.toList.drop a) = k + skipM false (s.data.toList.drop k))) (fun i _ => s.size - (intOf i).toNat)
  case atStart => exact ⟨a, ha, rfl, rfl, rfl⟩
  case round =>
    obtain ⟨k, hk, rfl, rfl, E⟩ := hrel
    by_cases ck : k < s.size
    · have k0 : (0 : Int) ≤ (k : Int) := by omega
      have k1 : (k : Int) < (s.size : Int) := by omega
      have X := ST.out k ck
      have X1 := hideR X.1
      have X2 := hideR X.2.1
      have X3 := hideR X.2.2
      clear X ST DE
      by_cases q0 : ((s[k].toNat : Int) == 32) = true
      · have b0 : ((s[k].toNat : Int) == 32) = true := q0
        have N : Hid (a + skipM false (s.data.toList.drop a) = ((k + 1 : Nat)) + skipM false (s.data.toList.drop (k + 1))) := by
          show _ = _
          rw [E.out, X1.out (by unfold blankI; simp [b0])]
          omega
        clear X1 X2 X3 E LE SD
        go_wp2_with fail
        go_roundw
        case rel => exact ⟨k + 1, by omega, by go_num, by first | rfl | trivial, N⟩
        case measure => simp [intOf]; omega
      by_cases q1 : ((s[k].toNat : Int) == 9) = true
      · have b0 : ((s[k].toNat : Int) == 32) = false := by simpa using q0
        have b1 : ((s[k].toNat : Int) == 9) = true := q1
        have N : Hid (a + skipM false (s.data.toList.drop a) = ((k + 1 : Nat)) + skipM false (s.data.toList.drop (k + 1))) := by
          show _ = _
          rw [E.out, X1.out (by unfold blankI; simp [b1])]
          omega
        clear X1 X2 X3 E LE SD
        go_wp2_with fail
        go_roundw
        case rel => exact ⟨k + 1, by omega, by go_num, by first | rfl | trivial, N⟩
        case measure => simp [intOf]; omega
      by_cases q2 : ((s[k].toNat : Int) == 13) = true
      · have b0 : ((s[k].toNat : Int) == 32) = false := by simpa using q0
        have b1 : ((s[k].toNat : Int) == 9) = false := by simpa using q1
        have b2 : ((s[k].toNat : Int) == 13) = true := q2
        have N : Hid (a + skipM false (s.data.toList.drop a) = ((k + 1 : Nat)) + skipM false (s.data.toList.drop (k + 1))) := by
          show _ = _
          rw [E.out, X1.out (by unfold blankI; simp [b2])]
          omega
        clear X1 X2 X3 E LE SD
        go_wp2_with fail
        go_roundw
        case rel => exact ⟨k + 1, by omega, by go_num, by first | rfl | trivial, N⟩
        case measure => simp [intOf]; omega
      by_cases q3 : ((s[k].toNat : Int) == 10) = true
      · have b0 : ((s[k].toNat : Int) == 32) = false := by simpa using q0
        have b1 : ((s[k].toNat : Int) == 9) = false := by simpa using q1
        have b2 : ((s[k].toNat : Int) == 13) = false := by simpa using q2
        have b3 : ((s[k].toNat : Int) == 10) = true := q3
        have N : Hid (a + skipM false (s.data.toList.drop a) = ((k + 1 : Nat)) + skipM false (s.data.toList.drop (k + 1))) := by
          show _ = _
          rw [E.out, X1.out (by unfold blankI; simp [b3])]
          omega
        clear X1 X2 X3 E LE SD
        go_wp2_with fail
        go_roundw
        case rel => exact ⟨k + 1, by omega, by go_num, by first | rfl | trivial, N⟩
        case measure => simp [intOf]; omega
      have b0 : ((s[k].toNat : Int) == 32) = false := by simpa using q0
      have b1 : ((s[k].toNat : Int) == 9) = false := by simpa using q1
      have b2 : ((s[k].toNat : Int) == 13) = false := by simpa using q2
      have b3 : ((s[k].toNat : Int) == 10) = false := by simpa using q3
      have bl : blankI (s[k].toNat : Int) = false := by unfold blankI; rw [b0, b1, b2, b3]; rfl
      clear q0 q1 q2 q3 X1
      by_cases q4 : ((s[k].toNat : Int) == 35) = true
      · obtain ⟨g1, g2⟩ := X2.out bl q4
        have le := LE.out k
        clear X2 X3 bl
        have N : Hid (a + skipM false (s.data.toList.drop a) = (k + spanL feedI (s.data.toList.drop k)) + skipM false (s.data.toList.drop (k + spanL feedI (s.data.toList.drop k)))) := by
          show _ = _
          rw [E.out, g2]
          omega
        have I0 : Hid (k + spanL feedI (s.data.toList.drop k) = k + spanL feedI (s.data.toList.drop k)) := rfl
        clear E g2
        generalize hm : k + spanL feedI (s.data.toList.drop k) = m at N I0
        have G := hideR (show k < m by omega)
        have G2 := hideR (show m ≤ s.size by omega)
        have I1 : Hid (k + spanL feedI (s.data.toList.drop k) = m) := hm
        clear hm g1 le I0
        go_wp2_with fail
        go_loopw [1] (fun i w2 => ∃ (j : Nat), j ≤ s.size ∧ i = .int .i64 j ∧ w2 = wr ∧ Hid (j + spanL feedI (s.data.toList.drop j) = m)) (fun i _ => s.size - (intOf i).toNat)
        case atStart => exact ⟨k, hk, rfl, rfl, I1⟩
        case round =>
          obtain ⟨j, hj, rfl, rfl, F⟩ := hrel
          clear I1
          by_cases cj : j < s.size
          · have j0 : (0 : Int) ≤ (j : Int) := by omega
            have j1 : (j : Int) < (s.size : Int) := by omega
            have Y := SD.out j cj
            have Y1 := hideR Y.1
            have Y2 := hideR Y.2
            clear Y
            by_cases c : ((s[j].toNat : Int) == 10) = true
            · have F2 : Hid (j = m) := by
                show _ = _
                have h := F.out
                rw [Y2.out (by unfold feedI; rw [c]; rfl)] at h
                omega
              clear Y1 Y2 F
              have e := F2.out
              subst e
              go_wp2_with fail
              go_roundw
              case rel => exact ⟨j, hj, rfl, by first | rfl | trivial, N⟩
              case measure => have := G.out; simp [intOf]; omega
            · have c' : ((s[j].toNat : Int) == 10) = false := by simpa using c
              have F2 : Hid ((j + 1) + spanL feedI (s.data.toList.drop (j + 1)) = m) := by
                show _ = _
                have h := F.out
                rw [Y1.out (by unfold feedI; rw [c']; rfl)] at h
                omega
              clear Y1 Y2 F c
              go_wp2_with fail
              go_roundw
              case rel => exact ⟨j + 1, by omega, by go_num, by first | rfl | trivial, F2⟩
              case measure => simp [intOf]; omega
          · have F2 : Hid (j = m) := by
              show _ = _
              have h := F.out
              have := LE.out j
              omega
            have c' : decide ((j : Int) < (s.size : Int)) = false := by simp; omega
            clear F
            have e := F2.out
            subst e
            go_wp2_with fail
            go_roundw
            case rel => exact ⟨j, hj, rfl, by first | rfl | trivial, N⟩
            case measure => have := G.out; simp [intOf]; omega
      · have b4 : ((s[k].toNat : Int) == 35) = false := by simpa using q4
        have N := X3.out bl b4
        have R : Hid (a + skipM false (s.data.toList.drop a) = k) := by show _ = _; rw [E.out, N]; rfl
        clear X2 X3 bl LE E N q4 SD
        go_wp2_with fail
        go_ret
        exact ⟨by rw [R.out]; rfl, rfl⟩
    · obtain rfl : k = s.size := by omega
      have R : Hid (a + skipM false (s.data.toList.drop a) = s.size) := by show _ = _; rw [E.out, DE.out]; rfl
      have k1 : decide ((s.size : Int) < (s.size : Int)) = false := by simp
      clear E ST LE DE SD
      go_wp2_with fail
      go_ret
      exact ⟨by rw [R.out]; rfl, rfl⟩
end Go.Proofs.YtabjadbpllhgkaaDoor
