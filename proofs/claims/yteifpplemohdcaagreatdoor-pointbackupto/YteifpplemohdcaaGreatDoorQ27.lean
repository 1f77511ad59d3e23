/-
  The document's Parse, by what it calls.
-/
import Derived.Test.YteifpplemohdcaaGreatDoorQ26
import Derived.Test.YteifpplemohdcaaGreatDoorQ25
import Derived.Test.YteifpplemohdcaaGreatDoorQ21
namespace Go.Proofs.YteifpplemohdcaaGreatDoor
open Go.RowKit Go.Shelf
set_option linter.unusedVariables false
theorem cut_at (l : List UInt8) : (cutL l).1.length ≤ l.length ∧ (cutL l).1 = l.take (cutL l).1.length ∧ (cutL l).2.2 = decide ((cutL l).1.length < l.length) ∧ ((cutL l).1.length < l.length → (cutL l).2.1 = l.drop ((cutL l).1.length + 1)) ∧ (∀ k, k < (cutL l).1.length → l[k]? ≠ some 47) ∧ ((cutL l).1.length < l.length → l[(cutL l).1.length]? = some 47) := by
  induction l with
  | nil => simp [cutL]
  | cons c l ih =>
    by_cases h : c = 47
    · subst h
      simp [cutL]
    · obtain ⟨h1, h2, h3, h4, h5, h6⟩ := ih
      have e : cutL (c :: l) = (c :: (cutL l).1, (cutL l).2.1, (cutL l).2.2) := by rw [cutL, if_neg h]
      rw [e]
      refine ⟨by simpa using h1, by simpa using h2, by simp [h3], fun q => ?_, fun k hk => ?_, fun q => ?_⟩
      · have q' : (cutL l).1.length < l.length := by simpa using q
        simpa using h4 q'
      · cases k with
        | zero => simpa using h
        | succ k =>
          have := h5 k (by simpa using hk)
          simpa using this
      · have q' : (cutL l).1.length < l.length := by simpa using q
        simpa using h6 q'
def RetAt (wr w : World) : Prop := wr.cell? ⟨w.heap.size, 0, none⟩ = some (.int .i64 0) ∧ wr.cell? ⟨w.heap.size, 1, none⟩ = some (.int .i64 0) ∧ wr.frozen? ⟨w.heap.size, 0, none⟩ = false ∧ wr.frozen? ⟨w.heap.size, 1, none⟩ = false ∧ Below w.heap.size w wr
theorem RetAt.later {wr w w' : World} (h : RetAt wr w) (hb : Below wr.heap.size wr w') : RetAt w' w := by
  obtain ⟨S0, S1, S2, S3, B0⟩ := h
  exact ⟨kc _ _ hb S0, kc _ _ hb S1, kf _ _ hb S0 S2, kf _ _ hb S1 S3, beyond B0 hb⟩
theorem ret_start (w : World) : RetAt (w.alloc (.cells #[.int .i64 0, .int .i64 0] 33)) w := ⟨by simp [go_sem], by simp [go_sem], by simp [go_sem], by simp [go_sem], single _ _⟩
set_option maxRecDepth 100000 in
set_option maxHeartbeats 8000000 in
theorem yparse_raw (s p : ByteArray) (A : Nat) (x1 x2 : Int) (ok1 ok2 : Bool) (t : Int × Int × Int) (w : World) (hs : s.size ≤ 140737488355328) (hA : A ≤ s.size)
    (H1 : Hid (∀ k (h : k < s.size), k < A → ((s[k].toNat : Int) == 47) = false)) (H2 : Hid (∀ h : A < s.size, ((s[A].toNat : Int) == 47) = true))
    (HD1 : Hid (∀ w, Calls Tryz.prog 30 #[.string (s.extract 0 A)] w fun e w' => e = .returned (.tuple #[.int .i64 x1, .bool ok1]) ∧ Below w.heap.size w w'))
    (HD2 : Hid (A < s.size → ∀ w, Calls Tryz.prog 30 #[.string (s.extract (A + 1) s.size)] w fun e w' => e = .returned (.tuple #[.int .i64 x2, .bool ok2]) ∧ Below w.heap.size w w'))
    (HFn : Hid (¬ A < s.size → (ok1 = false ∧ t = (0, 0, 7)) ∨
      (ok1 = true ∧ Hid (AskY x1 1 false) ∧ t = (0, 0, 7)) ∨
      (ok1 = true ∧ Hid (AskY x1 1 true) ∧ Hid (∀ w', Below w.heap.size w w' → Calls Tryz.prog 23 #[rv x1 1] w' fun e w'' => e = .returned (.string p) ∧ Below w'.heap.size w' w'') ∧ (p.toList == s.toList) = false ∧ t = (0, 0, 7)) ∨
      (ok1 = true ∧ Hid (AskY x1 1 true) ∧ Hid (∀ w', Below w.heap.size w w' → Calls Tryz.prog 23 #[rv x1 1] w' fun e w'' => e = .returned (.string p) ∧ Below w'.heap.size w' w'') ∧ (p.toList == s.toList) = true ∧ t = (x1, 1, 0))))
    (HFs : Hid (A < s.size → (ok1 = false ∧ t = (0, 0, 7)) ∨
      (ok1 = true ∧ ok2 = false ∧ t = (0, 0, 7)) ∨
      (ok1 = true ∧ ok2 = true ∧ Hid (AskY x1 x2 false) ∧ t = (0, 0, 7)) ∨
      (ok1 = true ∧ ok2 = true ∧ Hid (AskY x1 x2 true) ∧ Hid (∀ w', Below w.heap.size w w' → Calls Tryz.prog 23 #[rv x1 x2] w' fun e w'' => e = .returned (.string p) ∧ Below w'.heap.size w' w'') ∧ (p.toList == s.toList) = false ∧ t = (0, 0, 7)) ∨
      (ok1 = true ∧ ok2 = true ∧ Hid (AskY x1 x2 true) ∧ Hid (∀ w', Below w.heap.size w w' → Calls Tryz.prog 23 #[rv x1 x2] w' fun e w'' => e = .returned (.string p) ∧ Below w'.heap.size w' w'') ∧ (p.toList == s.toList) = true ∧ t = (x1, x2, 0)))) :
    Calls Tryz.prog 15 #[.string s] w fun e w' => e = .returned (trip t) ∧ Below w.heap.size w w' := by
  have R0 := hideR (ret_start w)
  go_enter Tryz.func15, Tryz.ntmps15
  go_wp2_with fail
  generalize w.alloc (.cells #[.int .i64 0, .int .i64 0] 33) = W at *
  go_loopw [4, 5] (fun at_ i wr => ∃ (k : Nat), k ≤ A ∧ at_ = .int .i64 (s.size : Int) ∧ i = .int .i64 k ∧ Hid (RetAt wr w)) (fun _ i _ => s.size - (intOf i).toNat)
  case atStart => exact ⟨0, by omega, rfl, rfl, R0⟩
  case round =>
    obtain ⟨k, hk, rfl, rfl, RA⟩ := hrel
    clear R0
    by_cases ck : k < s.size
    · have k0 : (0 : Int) ≤ (k : Int) := by omega
      have k1 : (k : Int) < (s.size : Int) := by omega
      by_cases ca : k < A
      · have g := H1.out k ck ca
        go_wp2_with fail
        go_roundw
        case rel => exact ⟨k + 1, by omega, rfl, by go_num, RA⟩
        case measure => simp [intOf]; omega
      · obtain rfl : k = A := by omega
        have cA := ck
        have g := H2.out ck
        have a1 : (k : Int) ≤ (s.size : Int) := by omega
        have a2 : (0 : Int) ≤ (k : Int) + 1 := by omega
        have a3 : (k : Int) + 1 ≤ (s.size : Int) := by omega
        have a4 : IntKind.i64.wrap ((k : Int) + 1) = (k : Int) + 1 := by rw [IntKind.wrap_i64]; omega
        clear H1 H2
        go_wp2_with fail
        refine (HD1.out _).mono ?_
        rintro e' w1 ⟨rfl, hb⟩
        have RB := hideR (RA.out.later hb)
        clear hb RA
        go_wp2_with fail
        refine (HD2.out cA _).mono ?_
        rintro e' w2 ⟨rfl, hb⟩
        have RC := hideR (RB.out.later hb)
        clear hb RB
        go_upto_region 13 with (fail)
        have RD := hideR (RC.out.later (single w2 (.cells #[.int .i64 x1, .int .i64 x2] 33)))
        have r0 : (w2.alloc (.cells #[.int .i64 x1, .int .i64 x2] 33)).cell? ⟨w2.heap.size, 0, none⟩ = some (.int .i64 x1) := new_cell w2 _ _ 0
        have r1 : (w2.alloc (.cells #[.int .i64 x1, .int .i64 x2] 33)).cell? ⟨w2.heap.size, 1, none⟩ = some (.int .i64 x2) := new_cell w2 _ _ 1
        have nr : ¬ w2.heap.size = w.heap.size := by have h : w.heap.size < w2.heap.size := World.block_lt_of_cell? _ _ RC.out.1; omega
        clear RC
        generalize (w2.alloc (.cells #[.int .i64 x1, .int .i64 x2] 33)) = WX at *
        generalize w2.heap.size = rb at *
        rcases HFs.out cA with ⟨rfl, rfl⟩ | ⟨rfl, rfl, rfl⟩ | ⟨rfl, rfl, HR, rfl⟩ | ⟨rfl, rfl, HR, HP, hq, rfl⟩ | ⟨rfl, rfl, HR, HP, hq, rfl⟩
        · clear HFs HFn HD1 HD2
          obtain ⟨S0, S1, S2, S3, B0⟩ := RD.out
          clear RD
          go_wp2_with fail
          refine bodyPost_ret (v := .tuple #[rv 0 0, .int .i64 7]) (by simp [results, Tryz.results15, go_sem, *]) rfl ⟨rfl, ?_⟩
          first | exact B0 | exact set2 B0 (Nat.le_refl _) _ _
        · clear HFs HFn HD1 HD2
          obtain ⟨S0, S1, S2, S3, B0⟩ := RD.out
          clear RD
          go_wp2_with fail
          refine bodyPost_ret (v := .tuple #[rv 0 0, .int .i64 7]) (by simp [results, Tryz.results15, go_sem, *]) rfl ⟨rfl, ?_⟩
          first | exact B0 | exact set2 B0 (Nat.le_refl _) _ _
        · clear HFs HFn HD1 HD2
          go_wp2_with fail
          refine (HR.out _).mono ?_
          rintro e' w4 ⟨rfl, hb⟩
          have RE := hideR (RD.out.later hb)
          have r0_ := kc _ _ hb r0
          have r1_ := kc _ _ hb r1
          clear hb RD r0 r1
          obtain ⟨S0, S1, S2, S3, B0⟩ := RE.out
          clear RE
          go_wp2_with fail
          refine bodyPost_ret (v := .tuple #[rv 0 0, .int .i64 7]) (by simp [results, Tryz.results15, go_sem, *]) rfl ⟨rfl, ?_⟩
          first | exact B0 | exact set2 B0 (Nat.le_refl _) _ _
        · clear HFs HFn HD1 HD2
          go_wp2_with fail
          refine (HR.out _).mono ?_
          rintro e' w4 ⟨rfl, hb⟩
          have RE := hideR (RD.out.later hb)
          have r0_ := kc _ _ hb r0
          have r1_ := kc _ _ hb r1
          clear hb RD r0 r1
          go_wp2_with fail
          refine (HP.out _ RE.out.2.2.2.2).mono ?_
          rintro e' w5 ⟨rfl, hb⟩
          have RF := hideR (RE.out.later hb)
          have q0 := kc _ _ hb r0_
          have q1 := kc _ _ hb r1_
          clear hb RE r0_ r1_
          obtain ⟨S0, S1, S2, S3, B0⟩ := RF.out
          clear RF
          go_wp2_with fail
          refine bodyPost_ret (v := .tuple #[rv 0 0, .int .i64 7]) (by simp [results, Tryz.results15, go_sem, *]) rfl ⟨rfl, ?_⟩
          first | exact B0 | exact set2 B0 (Nat.le_refl _) _ _
        · clear HFs HFn HD1 HD2
          go_wp2_with fail
          refine (HR.out _).mono ?_
          rintro e' w4 ⟨rfl, hb⟩
          have RE := hideR (RD.out.later hb)
          have r0_ := kc _ _ hb r0
          have r1_ := kc _ _ hb r1
          clear hb RD r0 r1
          go_wp2_with fail
          refine (HP.out _ RE.out.2.2.2.2).mono ?_
          rintro e' w5 ⟨rfl, hb⟩
          have RF := hideR (RE.out.later hb)
          have q0 := kc _ _ hb r0_
          have q1 := kc _ _ hb r1_
          clear hb RE r0_ r1_
          obtain ⟨S0, S1, S2, S3, B0⟩ := RF.out
          clear RF
          go_wp2_with fail
          refine bodyPost_ret (v := .tuple #[rv x1 x2, .int .i64 0]) (by simp [results, Tryz.results15, go_sem, *]) rfl ⟨rfl, ?_⟩
          first | exact B0 | exact set2 B0 (Nat.le_refl _) _ _
    · obtain rfl : A = s.size := by omega
      obtain rfl : k = s.size := by omega
      have cA : ¬ s.size < s.size := by omega
      have k1 : decide ((s.size : Int) < (s.size : Int)) = false := by simp
      have a0 : (0 : Int) ≤ (s.size : Int) := by omega
      have a1 : (s.size : Int) ≤ (s.size : Int) := by omega
      have ex : s.extract 0 s.size = s := by
        have e : s.data.toList.take s.size = s.data.toList := List.take_of_length_le (by rw [len_of]; exact Nat.le_refl _)
        rw [take_bytes s s.size (Nat.le_refl _), e]
      rw [ex] at HD1
      clear H1 H2 ex
      go_wp2_with fail
      refine (HD1.out _).mono ?_
      rintro e' w1 ⟨rfl, hb⟩
      have RB := hideR (RA.out.later hb)
      clear hb RA
      go_upto_region 13 with (fail)
      have RD := hideR (RB.out.later (single w1 (.cells #[.int .i64 x1, .int .i64 1] 33)))
      have r0 : (w1.alloc (.cells #[.int .i64 x1, .int .i64 1] 33)).cell? ⟨w1.heap.size, 0, none⟩ = some (.int .i64 x1) := new_cell w1 _ _ 0
      have r1 : (w1.alloc (.cells #[.int .i64 x1, .int .i64 1] 33)).cell? ⟨w1.heap.size, 1, none⟩ = some (.int .i64 1) := new_cell w1 _ _ 1
      have nr : ¬ w1.heap.size = w.heap.size := by have h : w.heap.size < w1.heap.size := World.block_lt_of_cell? _ _ RB.out.1; omega
      clear RB
      generalize (w1.alloc (.cells #[.int .i64 x1, .int .i64 1] 33)) = WX at *
      generalize w1.heap.size = rb at *
      rcases HFn.out cA with ⟨rfl, rfl⟩ | ⟨rfl, HR, rfl⟩ | ⟨rfl, HR, HP, hq, rfl⟩ | ⟨rfl, HR, HP, hq, rfl⟩
      · clear HFs HFn HD1 HD2
        obtain ⟨S0, S1, S2, S3, B0⟩ := RD.out
        clear RD
        go_wp2_with fail
        refine bodyPost_ret (v := .tuple #[rv 0 0, .int .i64 7]) (by simp [results, Tryz.results15, go_sem, *]) rfl ⟨rfl, ?_⟩
        first | exact B0 | exact set2 B0 (Nat.le_refl _) _ _
      · clear HFs HFn HD1 HD2
        go_wp2_with fail
        refine (HR.out _).mono ?_
        rintro e' w4 ⟨rfl, hb⟩
        have RE := hideR (RD.out.later hb)
        have r0_ := kc _ _ hb r0
        have r1_ := kc _ _ hb r1
        clear hb RD r0 r1
        obtain ⟨S0, S1, S2, S3, B0⟩ := RE.out
        clear RE
        go_wp2_with fail
        refine bodyPost_ret (v := .tuple #[rv 0 0, .int .i64 7]) (by simp [results, Tryz.results15, go_sem, *]) rfl ⟨rfl, ?_⟩
        first | exact B0 | exact set2 B0 (Nat.le_refl _) _ _
      · clear HFs HFn HD1 HD2
        go_wp2_with fail
        refine (HR.out _).mono ?_
        rintro e' w4 ⟨rfl, hb⟩
        have RE := hideR (RD.out.later hb)
        have r0_ := kc _ _ hb r0
        have r1_ := kc _ _ hb r1
        clear hb RD r0 r1
        go_wp2_with fail
        refine (HP.out _ RE.out.2.2.2.2).mono ?_
        rintro e' w5 ⟨rfl, hb⟩
        have RF := hideR (RE.out.later hb)
        have q0 := kc _ _ hb r0_
        have q1 := kc _ _ hb r1_
        clear hb RE r0_ r1_
        obtain ⟨S0, S1, S2, S3, B0⟩ := RF.out
        clear RF
        go_wp2_with fail
        refine bodyPost_ret (v := .tuple #[rv 0 0, .int .i64 7]) (by simp [results, Tryz.results15, go_sem, *]) rfl ⟨rfl, ?_⟩
        first | exact B0 | exact set2 B0 (Nat.le_refl _) _ _
      · clear HFs HFn HD1 HD2
        go_wp2_with fail
        refine (HR.out _).mono ?_
        rintro e' w4 ⟨rfl, hb⟩
        have RE := hideR (RD.out.later hb)
        have r0_ := kc _ _ hb r0
        have r1_ := kc _ _ hb r1
        clear hb RD r0 r1
        go_wp2_with fail
        refine (HP.out _ RE.out.2.2.2.2).mono ?_
        rintro e' w5 ⟨rfl, hb⟩
        have RF := hideR (RE.out.later hb)
        have q0 := kc _ _ hb r0_
        have q1 := kc _ _ hb r1_
        clear hb RE r0_ r1_
        obtain ⟨S0, S1, S2, S3, B0⟩ := RF.out
        clear RF
        go_wp2_with fail
        refine bodyPost_ret (v := .tuple #[rv x1 1, .int .i64 0]) (by simp [results, Tryz.results15, go_sem, *]) rfl ⟨rfl, ?_⟩
        first | exact B0 | exact set2 B0 (Nat.le_refl _) _ _
end Go.Proofs.YteifpplemohdcaaGreatDoor

/-
  The document's Parse of every text: what the program's tells.
-/
namespace Go.Proofs.YteifpplemohdcaaGreatDoor
open Go.RowKit Go.Shelf
set_option linter.unusedVariables false
theorem get_of (s : ByteArray) (k : Nat) (h : k < s.size) : s.data.toList[k]? = some s[k] := by
  have : k < s.data.toList.length := by simpa using h
  rw [List.getElem?_eq_getElem this]
  rfl
theorem parseX_no {l : List UInt8} (h : ¬ (okX l = true ∧ rightR (decT (cutL l).1).1 (denX l) = true ∧ printR (decT (cutL l).1).1 (denX l) = l)) : parseX l = (0, 0, 7) := by
  unfold parseX
  rw [if_neg h]
theorem parseX_yes {l : List UInt8} (h : okX l = true ∧ rightR (decT (cutL l).1).1 (denX l) = true ∧ printR (decT (cutL l).1).1 (denX l) = l) : parseX l = ((decT (cutL l).1).1, denX l, 0) := by
  unfold parseX
  rw [if_pos h]
theorem yparse_any (s : ByteArray) (w : World) (hlim : s.size ≤ 140737488355328) (ht : Pow w) :
    Calls Tryz.prog 15 #[.string s] w fun e w' => e = .returned (trip (parseT s.data.toList)) ∧ Below w.heap.size w w' := by
  rw [← both_parse]
  have el : s.data.toList.length = s.size := by simp
  obtain ⟨a1, a2, a3, a4, a5, a6⟩ := cut_at s.data.toList
  obtain ⟨l1, l2⟩ := cut_len s.data.toList
  have HD1 : Hid (∀ w, Calls Tryz.prog 30 #[.string (s.extract 0 (cutL s.data.toList).1.length)] w fun e w' => e = .returned (.tuple #[.int .i64 (decT (cutL s.data.toList).1).1, .bool (decT (cutL s.data.toList).1).2]) ∧ Below w.heap.size w w') := hideR fun w => by
    rw [take_bytes s _ (by omega), ← a2]
    exact dec_any _ w (by omega)
  have HD2 : Hid ((cutL s.data.toList).1.length < s.size → ∀ w, Calls Tryz.prog 30 #[.string (s.extract ((cutL s.data.toList).1.length + 1) s.size)] w fun e w' => e = .returned (.tuple #[.int .i64 (decT (cutL s.data.toList).2.1).1, .bool (decT (cutL s.data.toList).2.1).2]) ∧ Below w.heap.size w w') := hideR fun h w => by
    rw [drop_bytes s, ← a4 (by omega)]
    exact dec_any _ w (by omega)
  have i1 := dec_i64 (cutL s.data.toList).1
  have HR : ∀ d, I64 d → AskY (decT (cutL s.data.toList).1).1 d (rightR (decT (cutL s.data.toList).1).1 d) := fun d hd => askY _ d i1 hd
  have HP : ∀ d, I64 d → Hid (∀ w', Below w.heap.size w w' → Calls Tryz.prog 23 #[rv (decT (cutL s.data.toList).1).1 d] w' fun e w'' => e = .returned (.string ⟨(printR (decT (cutL s.data.toList).1).1 d).toArray⟩) ∧ Below w'.heap.size w' w'') := fun d hd => hideR fun w' hb => yprintT _ d w' i1 hd (pow_later ht hb)
  have ne : ∀ k (h : k < s.size), s.data.toList[k]? ≠ some 47 → ((s[k].toNat : Int) == 47) = false := fun k h q => by
    have : ¬ s[k].toNat = 47 := fun e => q (by
      rw [get_of s k h]
      congr 1
      apply UInt8.toNat_inj.1
      rw [e]
      rfl)
    simp
    omega
  refine yparse_raw s ⟨(printR (decT (cutL s.data.toList).1).1 (denX s.data.toList)).toArray⟩ (cutL s.data.toList).1.length _ _ _ _ _ w hlim (by omega) (hideR fun k h g => ne k h (a5 k g)) (hideR fun h => ?_) HD1 HD2 (hideR fun g => ?_) (hideR fun g => ?_)
  · have q := a6 (by omega)
    rw [get_of s _ h] at q
    have q := Option.some.inj q
    rw [q]
    rfl
  · have sl : (cutL s.data.toList).2.2 = false := by rw [a3]; simp; omega
    have D : denX s.data.toList = 1 := by simp [denX, sl]
    have O : okX s.data.toList = (decT (cutL s.data.toList).1).2 := by simp [okX, sl]
    rw [D]
    cases o1 : (decT (cutL s.data.toList).1).2
    · exact .inl ⟨rfl, parseX_no (by rw [O, o1]; simp)⟩
    · refine .inr ?_
      have k := HR 1 ⟨by decide, by decide⟩
      cases r : rightR (decT (cutL s.data.toList).1).1 1
      · rw [r] at k
        exact .inl ⟨rfl, k, parseX_no (by rw [D, r]; simp)⟩
      · rw [r] at k
        refine .inr ?_
        by_cases q : printR (decT (cutL s.data.toList).1).1 1 = s.data.toList
        · exact .inr ⟨rfl, k, HP 1 ⟨by decide, by decide⟩, by rw [eq_bytes, decide_eq_true q], by rw [parseX_yes ⟨by rw [O, o1], by rw [D, r], by rw [D, q]⟩, D]⟩
        · exact .inl ⟨rfl, k, HP 1 ⟨by decide, by decide⟩, by rw [eq_bytes, decide_eq_false q], parseX_no (by rw [D]; exact fun h => q h.2.2)⟩
  · have sl : (cutL s.data.toList).2.2 = true := by rw [a3]; simp; omega
    have D : denX s.data.toList = (decT (cutL s.data.toList).2.1).1 := by simp [denX, sl]
    have O : okX s.data.toList = ((decT (cutL s.data.toList).1).2 && (decT (cutL s.data.toList).2.1).2) := by simp [okX, sl]
    have i2 := dec_i64 (cutL s.data.toList).2.1
    rw [D]
    cases o1 : (decT (cutL s.data.toList).1).2
    · exact .inl ⟨rfl, parseX_no (by rw [O, o1]; simp)⟩
    · refine .inr ?_
      cases o2 : (decT (cutL s.data.toList).2.1).2
      · exact .inl ⟨rfl, rfl, parseX_no (by rw [O, o2]; simp)⟩
      · refine .inr ?_
        have k := HR _ i2
        cases r : rightR (decT (cutL s.data.toList).1).1 (decT (cutL s.data.toList).2.1).1
        · rw [r] at k
          exact .inl ⟨rfl, rfl, k, parseX_no (by rw [D, r]; simp)⟩
        · rw [r] at k
          refine .inr ?_
          by_cases q : printR (decT (cutL s.data.toList).1).1 (decT (cutL s.data.toList).2.1).1 = s.data.toList
          · exact .inr ⟨rfl, rfl, k, HP _ i2, by rw [eq_bytes, decide_eq_true q], by rw [parseX_yes ⟨by rw [O, o1, o2]; rfl, by rw [D, r], by rw [D, q]⟩, D]⟩
          · exact .inl ⟨rfl, rfl, k, HP _ i2, by rw [eq_bytes, decide_eq_false q], parseX_no (by rw [D]; exact fun h => q h.2.2)⟩
end Go.Proofs.YteifpplemohdcaaGreatDoor

/-
  The document's Parse of valuations.
-/
namespace Go.Proofs.YteifpplemohdcaaGreatDoor
open Go.RowKit Go.Shelf
set_option linter.unusedVariables false
set_option maxRecDepth 100000
/-- How far a text has been read. -/
def PSt (l : List UInt8) (done : List (List UInt8)) (A I : Nat) : Prop :=
  allP done done.length ∧ ((I ≤ l.length ∧ A ≤ I ∧ pcs l = done ++ pcs (l.drop A) ∧ ∀ c ∈ (l.drop A).take (I - A), c ≠ 32) ∨ (I = l.length + 1 ∧ pcs l = done))
theorem pst_start (l : List UInt8) : PSt l [] 0 0 := ⟨fun k hk => absurd hk (Nat.not_lt_zero _), .inl ⟨Nat.zero_le _, Nat.le_refl _, by simp, by simp⟩⟩
theorem pst_in {l : List UInt8} {done : List (List UInt8)} {A I : Nat} (h : PSt l done A I) (hi : I ≤ l.length) : A ≤ I ∧ pcs l = done ++ pcs (l.drop A) ∧ ∀ c ∈ (l.drop A).take (I - A), c ≠ 32 := by
  rcases h.2 with ⟨_, h1, h2, h3⟩ | ⟨h1, _⟩
  · exact ⟨h1, h2, h3⟩
  · omega
theorem take_more (l : List UInt8) (A I : Nat) (hA : A ≤ I) (x : UInt8) (hx : l[I]? = some x) : (l.drop A).take (I + 1 - A) = (l.drop A).take (I - A) ++ [x] := by
  rw [show I + 1 - A = I - A + 1 by omega, List.take_add_one, List.getElem?_drop, show A + (I - A) = I by omega, hx]
  rfl
theorem pst_skip {l : List UInt8} {done : List (List UInt8)} {A I : Nat} (h : PSt l done A I) (hi : I < l.length) (x : UInt8) (hx : l[I]? = some x) (hne : x ≠ 32) : PSt l done A (I + 1) := by
  obtain ⟨h1, h2, h3⟩ := pst_in h (by omega)
  refine ⟨h.1, .inl ⟨by omega, by omega, h2, fun c hc => ?_⟩⟩
  rw [take_more l A I h1 x hx] at hc
  rcases List.mem_append.1 hc with hc | hc
  · exact h3 c hc
  · rw [List.mem_singleton.1 hc]; exact hne
/-- What is left is a piece, and what stands behind it. -/
theorem pst_cut {l : List UInt8} {done : List (List UInt8)} {A I : Nat} (h : PSt l done A I) (hi : I ≤ l.length) (hx : I < l.length → l[I]? = some 32) :
    (I < l.length ∧ pcs l = done ++ [(l.drop A).take (I - A)] ++ pcs (l.drop (I + 1))) ∨ (I = l.length ∧ pcs l = done ++ [(l.drop A).take (I - A)]) := by
  obtain ⟨h1, h2, h3⟩ := pst_in h hi
  by_cases c : I < l.length
  · refine .inl ⟨c, ?_⟩
    have e : l.drop A = (l.drop A).take (I - A) ++ 32 :: l.drop (I + 1) := by
      have e1 := (List.take_append_drop (I - A) (l.drop A)).symm
      rw [List.drop_drop, show A + (I - A) = I by omega] at e1
      have e2 : l.drop I = 32 :: l.drop (I + 1) := by
        rw [List.drop_eq_getElem_cons c]
        have := hx c
        rw [List.getElem?_eq_getElem c] at this
        injection this with this
        rw [this]
      rw [e2] at e1
      exact e1
    rw [h2]
    conv => lhs; rw [e]
    rw [pcs_one h3]
    simp
  · refine .inr ⟨by omega, ?_⟩
    have e : (l.drop A).take (I - A) = l.drop A := List.take_of_length_le (by simp; omega)
    rw [e] at h3
    rw [h2, pcs_none h3, e]
theorem allP_snoc {done : List (List UInt8)} {p : List UInt8} (h : allP done done.length) (hp : (parseT p).2.2 = 0) : allP (done ++ [p]) (done ++ [p]).length := fun k hk => by
  by_cases e : k < done.length
  · have := h k e
    simpa [List.getD, List.getElem?_append_left e] using this
  · have : k = done.length := by simp at hk; omega
    subst this
    simpa [List.getD] using hp
theorem pst_piece {l : List UInt8} {done : List (List UInt8)} {A I : Nat} (h : PSt l done A I) (hi : I ≤ l.length) (hx : I < l.length → l[I]? = some 32) (hp : (parseT ((l.drop A).take (I - A))).2.2 = 0) : PSt l (done ++ [(l.drop A).take (I - A)]) (I + 1) (I + 1) := by
  refine ⟨allP_snoc h.1 hp, ?_⟩
  rcases pst_cut h hi hx with ⟨c, e⟩ | ⟨c, e⟩
  · exact .inl ⟨by omega, Nat.le_refl _, e, by simp⟩
  · exact .inr ⟨by omega, e⟩
theorem pst_bad {l : List UInt8} {done : List (List UInt8)} {A I : Nat} (h : PSt l done A I) (hi : I ≤ l.length) (hx : I < l.length → l[I]? = some 32) (hp : (parseT ((l.drop A).take (I - A))).2.2 ≠ 0) : ¬ GoodT l := fun hg => by
  have e : ∃ r, pcs l = done ++ [(l.drop A).take (I - A)] ++ r := by
    rcases pst_cut h hi hx with ⟨_, e⟩ | ⟨_, e⟩
    · exact ⟨_, e⟩
    · exact ⟨[], by rw [e]; simp⟩
  obtain ⟨r, e⟩ := e
  have := hg.1 done.length (by rw [e]; simp)
  rw [e] at this
  apply hp
  simpa [List.getD] using this
theorem pst_len {l : List UInt8} {done : List (List UInt8)} {A I : Nat} (h : PSt l done A I) : done.length ≤ l.length + 1 := by
  have := pcs_len l
  rcases h.2 with ⟨_, _, e, _⟩ | ⟨_, e⟩
  · rw [e] at this
    simp at this
    omega
  · rw [e] at this
    exact this
theorem pst_end {l : List UInt8} {done : List (List UInt8)} {A I : Nat} (h : PSt l done A I) (hi : ¬ I ≤ l.length) : pcs l = done ∧ I = l.length + 1 := by
  rcases h.2 with ⟨h1, _⟩ | ⟨h1, e⟩
  · omega
  · exact ⟨e, h1⟩
theorem ratCk_congr {L M : Rats} {K : Nat} (h : ∀ k, k < K → L.n k = M.n k ∧ L.d k = M.d k) : ratCk L K = ratCk M K := by
  unfold ratCk
  apply List.map_congr_left
  intro j hj
  rw [List.mem_range] at hj
  unfold ratJ
  rw [(h (j / 2) (by omega)).1, (h (j / 2) (by omega)).2]
theorem ratCk_snoc (done : List (List UInt8)) (p : List UInt8) : ratCk (ratsOf (done ++ [p])) (done.length + 1) = ratCk (ratsOf done) done.length ++ [.int .i64 (parseT p).1, .int .i64 (parseT p).2.1] := by
  rw [ratCk_next]
  have e : (done ++ [p]).getD done.length [] = p := by simp [List.getD]
  have c : ratCk (ratsOf (done ++ [p])) done.length = ratCk (ratsOf done) done.length := ratCk_congr fun k hk => by
    have : (done ++ [p]).getD k [] = done.getD k [] := by simp [List.getD, List.getElem?_append_left hk]
    exact ⟨by show (parseT _).1 = (parseT _).1; rw [this], by show (parseT _).2.1 = (parseT _).2.1; rw [this]⟩
  rw [c]
  show _ ++ [Value.int .i64 (parseT ((done ++ [p]).getD done.length [])).1, Value.int .i64 (parseT ((done ++ [p]).getD done.length [])).2.1] = _
  rw [e]
theorem get_opt (S : ByteArray) (k : Nat) (h : k < S.size) : S.data.toList[k]? = some S[k] := by
  have h' : k < S.data.toList.length := by simpa using h
  rw [List.getElem?_eq_getElem h']
  rfl
theorem cut_of (s : ByteArray) (A I : Nat) : (s.extract A I).data.toList = (s.data.toList.drop A).take (I - A) := by
  rw [Lib.extract_data]
end Go.Proofs.YteifpplemohdcaaGreatDoor
