/-
  The document's Parse, by what it calls.
-/
import Derived.Test.YtmpdicjjaoeblaaDoorZj
import Derived.Test.YtmpdicjjaoeblaaDoorZh
namespace Go.Proofs.YtmpdicjjaoeblaaDoor
open Go.RowKit Go.Shelf
set_option linter.unusedVariables false
theorem cut_at (l : List UInt8) : (cutL l).1.length ≤ l.length ∧ (cutL l).1 = l.take (cutL l).1.length ∧ (cutL l).2.2 = decide ((cutL l).1.length < l.length) ∧ ((cutL l).1.length < l.length → (cutL l).2.1 = l.drop ((cutL l).1.length + 1)) ∧ (∀ k, k < (cutL l).1.length → l[k]? ≠ some 47) ∧ ((cutL l).1.length < l.length → l[(cutL l).1.length]? = some 47) := by
  induction l with
  | nil => simp [cutL]
  | cons c l ih =>
    by_cases h : c = 47
    · subst h
      simp [cutL]
    · obtain ⟨h1, h2, h3, h4, h5, h6⟩ := ih
      have e : cutL (c :: l) = (c :: (cutL l).1, (cutL l).2.1, (cutL l).2.2) := by rw [cutL, if_neg h]
      rw [e]
      refine ⟨by simpa using h1, by simpa using h2, by simp [h3], fun q => ?_, fun k hk => ?_, fun q => ?_⟩
      · have q' : (cutL l).1.length < l.length := by simpa using q
        simpa using h4 q'
      · cases k with
        | zero => simpa using h
        | succ k =>
          have := h5 k (by simpa using hk)
          simpa using this
      · have q' : (cutL l).1.length < l.length := by simpa using q
        simpa using h6 q'
def RetAt (wr w : World) : Prop := wr.cell? ⟨w.heap.size, 0, none⟩ = some (.int .i64 0) ∧ wr.cell? ⟨w.heap.size, 1, none⟩ = some (.int .i64 0) ∧ wr.frozen? ⟨w.heap.size, 0, none⟩ = false ∧ wr.frozen? ⟨w.heap.size, 1, none⟩ = false ∧ Below w.heap.size w wr
theorem RetAt.later {wr w w' : World} (h : RetAt wr w) (hb : Below wr.heap.size wr w') : RetAt w' w := by
  obtain ⟨S0, S1, S2, S3, B0⟩ := h
  exact ⟨kc _ _ hb S0, kc _ _ hb S1, kf _ _ hb S0 S2, kf _ _ hb S1 S3, beyond B0 hb⟩
theorem ret_start (w : World) : RetAt (w.alloc (.cells #[.int .i64 0, .int .i64 0] 23)) w := ⟨by simp [go_sem], by simp [go_sem], by simp [go_sem], by simp [go_sem], single _ _⟩
set_option maxRecDepth 100000 in
set_option maxHeartbeats 8000000 in
theorem yparse_raw (s p : ByteArray) (A : Nat) (x1 x2 : Int) (ok1 ok2 : Bool) (t : Int × Int × Int) (w : World) (hs : s.size ≤ 140737488355328) (hA : A ≤ s.size)
    (H1 : Hid (∀ k (h : k < s.size), k < A → ((s[k].toNat : Int) == 47) = false)) (H2 : Hid (∀ h : A < s.size, ((s[A].toNat : Int) == 47) = true))
    (HD1 : Hid (∀ w, Calls Tryd.prog 19 #[.string (s.extract 0 A)] w fun e w' => e = .returned (.tuple #[.int .i64 x1, .bool ok1]) ∧ Below w.heap.size w w'))
    (HD2 : Hid (A < s.size → ∀ w, Calls Tryd.prog 19 #[.string (s.extract (A + 1) s.size)] w fun e w' => e = .returned (.tuple #[.int .i64 x2, .bool ok2]) ∧ Below w.heap.size w w'))
    (HFn : Hid (¬ A < s.size → (ok1 = false ∧ t = (0, 0, 7)) ∨
      (ok1 = true ∧ Hid (AskY x1 1 false) ∧ t = (0, 0, 7)) ∨
      (ok1 = true ∧ Hid (AskY x1 1 true) ∧ Hid (∀ w', Below w.heap.size w w' → Calls Tryd.prog 10 #[rv x1 1] w' fun e w'' => e = .returned (.string p) ∧ Below w'.heap.size w' w'') ∧ (p.toList == s.toList) = false ∧ t = (0, 0, 7)) ∨
      (ok1 = true ∧ Hid (AskY x1 1 true) ∧ Hid (∀ w', Below w.heap.size w w' → Calls Tryd.prog 10 #[rv x1 1] w' fun e w'' => e = .returned (.string p) ∧ Below w'.heap.size w' w'') ∧ (p.toList == s.toList) = true ∧ t = (x1, 1, 0))))
    (HFs : Hid (A < s.size → (ok1 = false ∧ t = (0, 0, 7)) ∨
      (ok1 = true ∧ ok2 = false ∧ t = (0, 0, 7)) ∨
      (ok1 = true ∧ ok2 = true ∧ Hid (AskY x1 x2 false) ∧ t = (0, 0, 7)) ∨
      (ok1 = true ∧ ok2 = true ∧ Hid (AskY x1 x2 true) ∧ Hid (∀ w', Below w.heap.size w w' → Calls Tryd.prog 10 #[rv x1 x2] w' fun e w'' => e = .returned (.string p) ∧ Below w'.heap.size w' w'') ∧ (p.toList == s.toList) = false ∧ t = (0, 0, 7)) ∨
      (ok1 = true ∧ ok2 = true ∧ Hid (AskY x1 x2 true) ∧ Hid (∀ w', Below w.heap.size w w' → Calls Tryd.prog 10 #[rv x1 x2] w' fun e w'' => e = .returned (.string p) ∧ Below w'.heap.size w' w'') ∧ (p.toList == s.toList) = true ∧ t = (x1, x2, 0)))) :
    Calls Tryd.prog 9 #[.string s] w fun e w' => e = .returned (trip t) ∧ Below w.heap.size w w' := by
  have R0 := hideR (ret_start w)
  go_enter Tryd.func9, Tryd.ntmps9
  go_wp2_with fail
  generalize w.alloc (.cells #[.int .i64 0, .int .i64 0] 23) = W at *
  go_loopw [4, 5] (fun at_ i wr => ∃ (k : Nat), k ≤ A ∧ at_ = .int .i64 (s.size : Int) ∧ i = .int .i64 k ∧ Hid (RetAt wr w)) (fun _ i _ => s.size - (intOf i).toNat)
  case atStart => exact ⟨0, by omega, rfl, rfl, R0⟩
  case round =>
    obtain ⟨k, hk, rfl, rfl, RA⟩ := hrel
    clear R0
    by_cases ck : k < s.size
    · have k0 : (0 : Int) ≤ (k : Int) := by omega
      have k1 : (k : Int) < (s.size : Int) := by omega
      by_cases ca : k < A
      · have g := H1.out k ck ca
        go_wp2_with fail
        go_roundw
        case rel => exact ⟨k + 1, by omega, rfl, by go_num, RA⟩
        case measure => simp [intOf]; omega
      · obtain rfl : k = A := by omega
        have cA := ck
        have g := H2.out ck
        have a1 : (k : Int) ≤ (s.size : Int) := by omega
        have a2 : (0 : Int) ≤ (k : Int) + 1 := by omega
        have a3 : (k : Int) + 1 ≤ (s.size : Int) := by omega
        have a4 : IntKind.i64.wrap ((k : Int) + 1) = (k : Int) + 1 := by rw [IntKind.wrap_i64]; omega
        clear H1 H2
        go_wp2_with fail
        refine (HD1.out _).mono ?_
        rintro e' w1 ⟨rfl, hb⟩
        have RB := hideR (RA.out.later hb)
        clear hb RA
        go_wp2_with fail
        refine (HD2.out cA _).mono ?_
        rintro e' w2 ⟨rfl, hb⟩
        have RC := hideR (RB.out.later hb)
        clear hb RB
        go_upto_region 13 with (fail)
        have RD := hideR (RC.out.later (single w2 (.cells #[.int .i64 x1, .int .i64 x2] 23)))
        have r0 : (w2.alloc (.cells #[.int .i64 x1, .int .i64 x2] 23)).cell? ⟨w2.heap.size, 0, none⟩ = some (.int .i64 x1) := new_cell w2 _ _ 0
        have r1 : (w2.alloc (.cells #[.int .i64 x1, .int .i64 x2] 23)).cell? ⟨w2.heap.size, 1, none⟩ = some (.int .i64 x2) := new_cell w2 _ _ 1
        have nr : ¬ w2.heap.size = w.heap.size := by have h : w.heap.size < w2.heap.size := World.block_lt_of_cell? _ _ RC.out.1; omega
        clear RC
        generalize (w2.alloc (.cells #[.int .i64 x1, .int .i64 x2] 23)) = WX at *
        generalize w2.heap.size = rb at *
        rcases HFs.out cA with ⟨rfl, rfl⟩ | ⟨rfl, rfl, rfl⟩ | ⟨rfl, rfl, HR, rfl⟩ | ⟨rfl, rfl, HR, HP, hq, rfl⟩ | ⟨rfl, rfl, HR, HP, hq, rfl⟩
        · clear HFs HFn HD1 HD2
          obtain ⟨S0, S1, S2, S3, B0⟩ := RD.out
          clear RD
          go_wp2_with fail
          refine bodyPost_ret (v := .tuple #[rv 0 0, .int .i64 7]) (by simp [results, Tryd.results9, go_sem, *]) rfl ⟨rfl, ?_⟩
          first | exact B0 | exact set2 B0 (Nat.le_refl _) _ _
        · clear HFs HFn HD1 HD2
          obtain ⟨S0, S1, S2, S3, B0⟩ := RD.out
          clear RD
          go_wp2_with fail
          refine bodyPost_ret (v := .tuple #[rv 0 0, .int .i64 7]) (by simp [results, Tryd.results9, go_sem, *]) rfl ⟨rfl, ?_⟩
          first | exact B0 | exact set2 B0 (Nat.le_refl _) _ _
        · clear HFs HFn HD1 HD2
          go_wp2_with fail
          refine (HR.out _).mono ?_
          rintro e' w4 ⟨rfl, hb⟩
          have RE := hideR (RD.out.later hb)
          have r0_ := kc _ _ hb r0
          have r1_ := kc _ _ hb r1
          clear hb RD r0 r1
          obtain ⟨S0, S1, S2, S3, B0⟩ := RE.out
          clear RE
          go_wp2_with fail
          refine bodyPost_ret (v := .tuple #[rv 0 0, .int .i64 7]) (by simp [results, Tryd.results9, go_sem, *]) rfl ⟨rfl, ?_⟩
          first | exact B0 | exact set2 B0 (Nat.le_refl _) _ _
        · clear HFs HFn HD1 HD2
          go_wp2_with fail
          refine (HR.out _).mono ?_
          rintro e' w4 ⟨rfl, hb⟩
          have RE := hideR (RD.out.later hb)
          have r0_ := kc _ _ hb r0
          have r1_ := kc _ _ hb r1
          clear hb RD r0 r1
          go_wp2_with fail
          refine (HP.out _ RE.out.2.2.2.2).mono ?_
          rintro e' w5 ⟨rfl, hb⟩
          have RF := hideR (RE.out.later hb)
          have q0 := kc _ _ hb r0_
          have q1 := kc _ _ hb r1_
          clear hb RE r0_ r1_
          obtain ⟨S0, S1, S2, S3, B0⟩ := RF.out
          clear RF
          go_wp2_with fail
          refine bodyPost_ret (v := .tuple #[rv 0 0, .int .i64 7]) (by simp [results, Tryd.results9, go_sem, *]) rfl ⟨rfl, ?_⟩
          first | exact B0 | exact set2 B0 (Nat.le_refl _) _ _
        · clear HFs HFn HD1 HD2
          go_wp2_with fail
          refine (HR.out _).mono ?_
          rintro e' w4 ⟨rfl, hb⟩
          have RE := hideR (RD.out.later hb)
          have r0_ := kc _ _ hb r0
          have r1_ := kc _ _ hb r1
          clear hb RD r0 r1
          go_wp2_with fail
          refine (HP.out _ RE.out.2.2.2.2).mono ?_
          rintro e' w5 ⟨rfl, hb⟩
          have RF := hideR (RE.out.later hb)
          have q0 := kc _ _ hb r0_
          have q1 := kc _ _ hb r1_
          clear hb RE r0_ r1_
          obtain ⟨S0, S1, S2, S3, B0⟩ := RF.out
          clear RF
          go_wp2_with fail
          refine bodyPost_ret (v := .tuple #[rv x1 x2, .int .i64 0]) (by simp [results, Tryd.results9, go_sem, *]) rfl ⟨rfl, ?_⟩
          first | exact B0 | exact set2 B0 (Nat.le_refl _) _ _
    · obtain rfl : A = s.size := by omega
      obtain rfl : k = s.size := by omega
      have cA : ¬ s.size < s.size := by omega
      have k1 : decide ((s.size : Int) < (s.size : Int)) = false := by simp
      have a0 : (0 : Int) ≤ (s.size : Int) := by omega
      have a1 : (s.size : Int) ≤ (s.size : Int) := by omega
      have ex : s.extract 0 s.size = s := by
        have e : s.data.toList.take s.size = s.data.toList := List.take_of_length_le (by rw [len_of]; exact Nat.le_refl _)
        rw [take_bytes s s.size (Nat.le_refl _), e]
      rw [ex] at HD1
      clear H1 H2 ex
      go_wp2_with fail
      refine (HD1.out _).mono ?_
      rintro e' w1 ⟨rfl, hb⟩
      have RB := hideR (RA.out.later hb)
      clear hb RA
      go_upto_region 13 with (fail)
      have RD := hideR (RB.out.later (single w1 (.cells #[.int .i64 x1, .int .i64 1] 23)))
      have r0 : (w1.alloc (.cells #[.int .i64 x1, .int .i64 1] 23)).cell? ⟨w1.heap.size, 0, none⟩ = some (.int .i64 x1) := new_cell w1 _ _ 0
      have r1 : (w1.alloc (.cells #[.int .i64 x1, .int .i64 1] 23)).cell? ⟨w1.heap.size, 1, none⟩ = some (.int .i64 1) := new_cell w1 _ _ 1
      have nr : ¬ w1.heap.size = w.heap.size := by have h : w.heap.size < w1.heap.size := World.block_lt_of_cell? _ _ RB.out.1; omega
      clear RB
      generalize (w1.alloc (.cells #[.int .i64 x1, .int .i64 1] 23)) = WX at *
      generalize w1.heap.size = rb at *
      rcases HFn.out cA with ⟨rfl, rfl⟩ | ⟨rfl, HR, rfl⟩ | ⟨rfl, HR, HP, hq, rfl⟩ | ⟨rfl, HR, HP, hq, rfl⟩
      · clear HFs HFn HD1 HD2
        obtain ⟨S0, S1, S2, S3, B0⟩ := RD.out
        clear RD
        go_wp2_with fail
        refine bodyPost_ret (v := .tuple #[rv 0 0, .int .i64 7]) (by simp [results, Tryd.results9, go_sem, *]) rfl ⟨rfl, ?_⟩
        first | exact B0 | exact set2 B0 (Nat.le_refl _) _ _
      · clear HFs HFn HD1 HD2
        go_wp2_with fail
        refine (HR.out _).mono ?_
        rintro e' w4 ⟨rfl, hb⟩
        have RE := hideR (RD.out.later hb)
        have r0_ := kc _ _ hb r0
        have r1_ := kc _ _ hb r1
        clear hb RD r0 r1
        obtain ⟨S0, S1, S2, S3, B0⟩ := RE.out
        clear RE
        go_wp2_with fail
        refine bodyPost_ret (v := .tuple #[rv 0 0, .int .i64 7]) (by simp [results, Tryd.results9, go_sem, *]) rfl ⟨rfl, ?_⟩
        first | exact B0 | exact set2 B0 (Nat.le_refl _) _ _
      · clear HFs HFn HD1 HD2
        go_wp2_with fail
        refine (HR.out _).mono ?_
        rintro e' w4 ⟨rfl, hb⟩
        have RE := hideR (RD.out.later hb)
        have r0_ := kc _ _ hb r0
        have r1_ := kc _ _ hb r1
        clear hb RD r0 r1
        go_wp2_with fail
        refine (HP.out _ RE.out.2.2.2.2).mono ?_
        rintro e' w5 ⟨rfl, hb⟩
        have RF := hideR (RE.out.later hb)
        have q0 := kc _ _ hb r0_
        have q1 := kc _ _ hb r1_
        clear hb RE r0_ r1_
        obtain ⟨S0, S1, S2, S3, B0⟩ := RF.out
        clear RF
        go_wp2_with fail
        refine bodyPost_ret (v := .tuple #[rv 0 0, .int .i64 7]) (by simp [results, Tryd.results9, go_sem, *]) rfl ⟨rfl, ?_⟩
        first | exact B0 | exact set2 B0 (Nat.le_refl _) _ _
      · clear HFs HFn HD1 HD2
        go_wp2_with fail
        refine (HR.out _).mono ?_
        rintro e' w4 ⟨rfl, hb⟩
        have RE := hideR (RD.out.later hb)
        have r0_ := kc _ _ hb r0
        have r1_ := kc _ _ hb r1
        clear hb RD r0 r1
        go_wp2_with fail
        refine (HP.out _ RE.out.2.2.2.2).mono ?_
        rintro e' w5 ⟨rfl, hb⟩
        have RF := hideR (RE.out.later hb)
        have q0 := kc _ _ hb r0_
        have q1 := kc _ _ hb r1_
        clear hb RE r0_ r1_
        obtain ⟨S0, S1, S2, S3, B0⟩ := RF.out
        clear RF
        go_wp2_with fail
        refine bodyPost_ret (v := .tuple #[rv x1 1, .int .i64 0]) (by simp [results, Tryd.results9, go_sem, *]) rfl ⟨rfl, ?_⟩
        first | exact B0 | exact set2 B0 (Nat.le_refl _) _ _
end Go.Proofs.YtmpdicjjaoeblaaDoor
