/-
  The contracts of bound.Parse and of the document's Print and Parse of bounds, for every text and bound.
-/
import Derived.Test.YtaagfiebcnnjjaaDoorBq
namespace Go.Proofs.YtaagfiebcnnjjaaDoor
open Go.RowKit
set_option linter.unusedVariables false

theorem bytes_of (s : ByteArray) : s = ⟨s.data.toList.toArray⟩ := by cases s; simp
theorem size_of_data (s : ByteArray) (l : List UInt8) (h : s.data.toList = l) : s.size = l.length := by rw [← h, len_of]
theorem cut_yes (s : ByteArray) (p m : List UInt8) (w : World) (h : s.data.toList = p ++ m) :
    Calls Tryd.prog 36 #[.string s, .string ⟨p.toArray⟩] w fun e w' => e = .returned (.tuple #[.string ⟨m.toArray⟩, .bool true]) ∧ w' = w := by
  have c := Go.Proofs.Tryd.strings_CutPrefix s ⟨p.toArray⟩ w
  have e1 : Lib.hasPrefix s.data.toList (⟨p.toArray⟩ : ByteArray).data.toList = true := by
    show p.isPrefixOf s.data.toList = true
    rw [List.isPrefixOf_iff_prefix, h]
    exact List.prefix_append p m
  have e2 : Lib.trimPrefix s.data.toList (⟨p.toArray⟩ : ByteArray).data.toList = m := by
    unfold Lib.trimPrefix
    rw [if_pos e1, h]
    exact List.drop_left
  rw [e1, e2] at c
  exact c
theorem cut_no (s : ByteArray) (p : List UInt8) (w : World) (h : ∀ m, s.data.toList ≠ p ++ m) :
    Calls Tryd.prog 36 #[.string s, .string ⟨p.toArray⟩] w fun e w' => e = .returned (.tuple #[.string s, .bool false]) ∧ w' = w := by
  have c := Go.Proofs.Tryd.strings_CutPrefix s ⟨p.toArray⟩ w
  have e1 : Lib.hasPrefix s.data.toList (⟨p.toArray⟩ : ByteArray).data.toList = false := by
    show p.isPrefixOf s.data.toList = false
    rw [Bool.eq_false_iff]
    intro hp
    obtain ⟨m, hm⟩ := List.isPrefixOf_iff_prefix.1 hp
    exact h m hm.symm
  have e2 : Lib.trimPrefix s.data.toList (⟨p.toArray⟩ : ByteArray).data.toList = s.data.toList := by
    unfold Lib.trimPrefix
    rw [if_neg (by rw [e1]; simp)]
  rw [e1, e2, ← bytes_of s] at c
  exact c
theorem cut2_yes (s : ByteArray) (m : List UInt8) (w : World) (h : s.data.toList = 60 :: 61 :: m) :
    Calls Tryd.prog 36 #[.string s, .string ⟨#[60, 61]⟩] w fun e w' => e = .returned (.tuple #[.string ⟨m.toArray⟩, .bool true]) ∧ w' = w := cut_yes s [60, 61] m w h
theorem cut2_no (s : ByteArray) (w : World) (h : ∀ m, s.data.toList ≠ 60 :: 61 :: m) :
    Calls Tryd.prog 36 #[.string s, .string ⟨#[60, 61]⟩] w fun e w' => e = .returned (.tuple #[.string s, .bool false]) ∧ w' = w := cut_no s [60, 61] w h
theorem cut1_yes (s : ByteArray) (m : List UInt8) (w : World) (h : s.data.toList = 60 :: m) :
    Calls Tryd.prog 36 #[.string s, .string ⟨#[60]⟩] w fun e w' => e = .returned (.tuple #[.string ⟨m.toArray⟩, .bool true]) ∧ w' = w := cut_yes s [60] m w h
theorem cut1_no (s : ByteArray) (w : World) (h : ∀ m, s.data.toList ≠ 60 :: m) :
    Calls Tryd.prog 36 #[.string s, .string ⟨#[60]⟩] w fun e w' => e = .returned (.tuple #[.string s, .bool false]) ∧ w' = w := cut_no s [60] w h
theorem read_list (m : List UInt8) (w : World) (hlim : m.length ≤ 140737488355328) (ht : Pow w) (he : Errs w) :
    Calls Tryd.prog 37 #[.string ⟨m.toArray⟩] w fun e w' => e = .returned (.tuple #[.int .i64 (readN m), .bool (readS m)]) ∧ Below w.heap.size w w' := by
  have c := read_any ⟨m.toArray⟩ w (by show m.toArray.size ≤ _; simpa using hlim) ht he
  exact c

theorem ret_pair {a b c d : Int} (h : a = b) (g : c = d) : Ending.returned (.tuple #[.int .i32 a, .int .i64 c]) = .returned (.tuple #[.int .i32 b, .int .i64 d]) := by rw [h, g]
theorem readS_some (m : List UInt8) (h : readS m = true) : readV m = some (readN m) := by
  unfold readS at h
  unfold readN
  cases x : readV m
  · rw [x] at h; cases h
  · rfl
theorem readS_none (m : List UInt8) (h : readS m = false) : readV m = none := by
  unfold readS at h
  cases x : readV m
  · rfl
  · rw [x] at h; cases h
theorem not_inf (s : ByteArray) (h : s.data.toList ≠ [105, 110, 102]) : (s.toList == [105, 110, 102]) = false := by
  rw [ByteArray.toList_eq]
  simpa using h

set_option maxHeartbeats 1000000 in
theorem parse_inf (s : ByteArray) (w : World) (h : s.data.toList = [105, 110, 102]) :
    Calls Tryd.prog 26 #[.string s] w fun e w' => ∃ b er, e = .returned (.tuple #[.int .i32 b, .int .i64 er]) ∧ ParseIs s.data.toList b er ∧ Below w.heap.size w w' := by
  have hp : Hid (ParseIs s.data.toList 2147483647 0) := .inl ⟨rfl, right_inf, by rw [h]; exact printS_inf⟩
  have hi : (s.toList == [105, 110, 102]) = true := by rw [ByteArray.toList_eq, h]; rfl
  clear h
  go_enter Tryd.func26, Tryd.ntmps26
  go_wp2_with fail
  go_ret2
  exact ⟨_, _, rfl, hp.out, Below.refl _ _⟩

theorem cases_read (r : Bool) (m : List UInt8) (hl : r = false → ∀ n, m ≠ 61 :: n) : (readS m = false → ParseIs ((if r then [60, 61] else [60]) ++ m) 0 7) ∧ (readS m = true → ofE (readN m) ≠ 0 → ParseIs ((if r then [60, 61] else [60]) ++ m) 0 7) ∧ (readS m = true → ofE (readN m) = 0 → ParseIs ((if r then [60, 61] else [60]) ++ m) (ofB (readN m) r) 0) := by
  refine ⟨fun h => ?_, fun h g => ?_, fun h g => form_of_read r m _ (readS_some m h) g⟩
  · refine .inr ⟨rfl, rfl, fun c rc => none_of_read r m hl (fun v hv => ?_) c rc⟩
    rw [readS_none m h] at hv
    cases hv
  · refine .inr ⟨rfl, rfl, fun c rc => none_of_read r m hl (fun v hv => ?_) c rc⟩
    rw [readS_some m h] at hv
    cases hv
    exact g

set_option maxHeartbeats 1000000 in
theorem parse_le (s : ByteArray) (m : List UInt8) (w : World) (hm : s.data.toList = 60 :: 61 :: m) (hlim : s.size ≤ 140737488355328) (ht : Pow w) (he : Errs w) :
    Calls Tryd.prog 26 #[.string s] w fun e w' => ∃ b er, e = .returned (.tuple #[.int .i32 b, .int .i64 er]) ∧ ParseIs s.data.toList b er ∧ Below w.heap.size w w' := by
  have hi := not_inf s (by rw [hm]; intro h; cases h)
  have hlen : m.length ≤ 140737488355328 := by
    have := size_of_data s _ hm
    simp at this
    omega
  have cs := cases_read true m (by intro h; cases h)
  have K := hide1 cs
  have HM := hide1 hm
  have C := hide1 (fun w => cut2_yes s m w hm)
  clear cs hm
  go_enter Tryd.func26, Tryd.ntmps26
  go_wp2_with fail
  refine (C.out _).mono ?_
  rintro e w' ⟨rfl, rfl⟩
  go_wp2_with fail
  refine (read_list m _ hlen ht he).mono ?_
  rintro e w1 ⟨rfl, h1⟩
  cases q : readS m
  · go_wp2
    go_ret2
    refine ⟨_, _, rfl, ?_, h1⟩
    rw [HM.out]
    exact K.out.1 q
  · by_cases g : ofE (readN m) = 0
    · go_wp2_with (go_at_call 30; refine (of_any _ _ _).mono ?_; rintro e w' ⟨rfl, rfl⟩)
      go_ret2
      refine ⟨_, _, rfl, ?_, h1⟩
      rw [HM.out]
      exact K.out.2.2 q g
    · have g' : (ofE (readN m) != 0) = true := by simpa using g
      have G := hide1 g
      clear g
      go_wp2_with (go_at_call 30; refine (of_any _ _ _).mono ?_; rintro e w' ⟨rfl, rfl⟩)
      go_ret2
      refine ⟨_, _, rfl, ?_, h1⟩
      rw [HM.out]
      exact K.out.2.1 q G.out

set_option maxHeartbeats 1000000 in
theorem parse_lt (s : ByteArray) (m : List UInt8) (w : World) (hm : s.data.toList = 60 :: m) (hn : ∀ n, m ≠ 61 :: n) (hlim : s.size ≤ 140737488355328) (ht : Pow w) (he : Errs w) :
    Calls Tryd.prog 26 #[.string s] w fun e w' => ∃ b er, e = .returned (.tuple #[.int .i32 b, .int .i64 er]) ∧ ParseIs s.data.toList b er ∧ Below w.heap.size w w' := by
  have hi := not_inf s (by rw [hm]; intro h; cases h)
  have hlen : m.length ≤ 140737488355328 := by
    have := size_of_data s _ hm
    simp at this
    omega
  have cs := cases_read false m (fun _ => hn)
  have K := hide1 cs
  have HM := hide1 hm
  have C1 := hide1 (fun w => cut2_no s w (fun n e => by rw [hm] at e; exact hn n (List.cons.inj e).2))
  have C2 := hide1 (fun w => cut1_yes s m w hm)
  clear cs hm hn
  go_enter Tryd.func26, Tryd.ntmps26
  go_wp2_with fail
  refine (C1.out _).mono ?_
  rintro e w' ⟨rfl, rfl⟩
  go_wp2_with fail
  refine (C2.out _).mono ?_
  rintro e w' ⟨rfl, rfl⟩
  go_wp2_with fail
  refine (read_list m _ hlen ht he).mono ?_
  rintro e w1 ⟨rfl, h1⟩
  cases q : readS m
  · go_wp2
    go_ret2
    refine ⟨_, _, rfl, ?_, h1⟩
    rw [HM.out]
    exact K.out.1 q
  · by_cases g : ofE (readN m) = 0
    · go_wp2_with (go_at_call 30; refine (of_any _ _ _).mono ?_; rintro e w' ⟨rfl, rfl⟩)
      go_ret2
      refine ⟨_, _, rfl, ?_, h1⟩
      rw [HM.out]
      exact K.out.2.2 q g
    · have g' : (ofE (readN m) != 0) = true := by simpa using g
      have G := hide1 g
      clear g
      go_wp2_with (go_at_call 30; refine (of_any _ _ _).mono ?_; rintro e w' ⟨rfl, rfl⟩)
      go_ret2
      refine ⟨_, _, rfl, ?_, h1⟩
      rw [HM.out]
      exact K.out.2.1 q G.out

set_option maxHeartbeats 1000000 in
theorem parse_no (s : ByteArray) (w : World) (h1 : s.data.toList ≠ [105, 110, 102]) (h2 : ∀ m, s.data.toList ≠ 60 :: m) :
    Calls Tryd.prog 26 #[.string s] w fun e w' => ∃ b er, e = .returned (.tuple #[.int .i32 b, .int .i64 er]) ∧ ParseIs s.data.toList b er ∧ Below w.heap.size w w' := by
  have hi := not_inf s h1
  have K : Hid (ParseIs s.data.toList 0 7) := .inr ⟨rfl, rfl, fun c rc => none_of_first _ h1 h2 c rc⟩
  have C1 := hide1 (fun w => cut2_no s w (fun n e => h2 _ e))
  have C2 := hide1 (fun w => cut1_no s w h2)
  clear h1 h2
  go_enter Tryd.func26, Tryd.ntmps26
  go_wp2_with fail
  refine (C1.out _).mono ?_
  rintro e w' ⟨rfl, rfl⟩
  go_wp2_with fail
  refine (C2.out _).mono ?_
  rintro e w' ⟨rfl, rfl⟩
  go_wp2
  go_ret2
  exact ⟨_, _, rfl, K.out, Below.refl _ _⟩

theorem parse_any (s : ByteArray) (w : World) (hlim : s.size ≤ 140737488355328) (ht : Pow w) (he : Errs w) :
    Calls Tryd.prog 26 #[.string s] w fun e w' => ∃ b er, e = .returned (.tuple #[.int .i32 b, .int .i64 er]) ∧ ParseIs s.data.toList b er ∧ Below w.heap.size w w' := by
  by_cases h1 : s.data.toList = [105, 110, 102]
  · exact parse_inf s w h1
  · by_cases h2 : ∃ m, s.data.toList = 60 :: m
    · obtain ⟨m, hm⟩ := h2
      by_cases h3 : ∃ n, m = 61 :: n
      · obtain ⟨n, rfl⟩ := h3
        exact parse_le s n w hm hlim ht he
      · exact parse_lt s m w hm (fun n e => h3 ⟨n, e⟩) hlim ht he
    · exact parse_no s w h1 (fun m e => h2 ⟨m, e⟩)

/-! ### the document's Print -/
theorem rprint_any (b : Int) (w : World) (h0 : -2147483648 ≤ b) (h1 : b ≤ 2147483647) (ht : Pow w) :
    Calls Tryd.prog 28 #[.int .i32 b] w fun e w' => e = .returned (.string ⟨(printS b).toArray⟩) ∧ Below w.heap.size w w' := by
  by_cases h : b = 2147483647
  · subst h
    go_enter Tryd.func28, Tryd.ntmps28
    go_wp2_with fail
    refine (rvalue_inf _).mono ?_
    rintro e w' ⟨rfl, rfl⟩
    go_wp2_with fail
    refine (rright_any _ _ h0 h1).mono ?_
    rw [right_inf]
    rintro e w' ⟨rfl, rfl⟩
    go_wp2_with fail
    go_ret
    exact ⟨rfl, Below.refl _ _⟩
  · cases f : finB b
    · have e1 : printS b = [] := by simp [printS, h, f]
      have r : rightB b = false := by
        cases q : rightB b
        · rfl
        · rcases fin_or_inf q with x | x
          · exact absurd x h
          · rw [f] at x; cases x
      rw [e1]
      clear e1
      go_enter Tryd.func28, Tryd.ntmps28
      go_wp2_with (first | (go_at_call 13; refine (rvalue_any _ _ h0 h1).mono ?_; rintro e w' ⟨rfl, rfl⟩) | (go_at_call 16; refine (rright_any _ _ h0 h1).mono ?_; rintro e w' ⟨rfl, rfl⟩))
      go_ret
      exact ⟨rfl, Below.refl _ _⟩
    · have rr := right_of_fin f
      have l := (fin_iff b).1 f
      have l0 : -9223372036854775808 ≤ valV b := by simp [valV, f]; omega
      have l1 : valV b ≤ 9223372036854775807 := by simp [valV, f]; omega
      have hl := Lib.itoa_length_le (valV b) l0 l1
      cases r : valR b
      · have e1 : printS b = [60] ++ Lib.itoa (valV b) := by simp [printS, h, f, r]
        rw [e1]
        clear e1 l
        go_enter Tryd.func28, Tryd.ntmps28
        go_wp2_with (first | (go_at_call 13; refine (rvalue_any _ _ h0 h1).mono ?_; rintro e w' ⟨rfl, rfl⟩) | (go_at_call 16; refine (rright_any _ _ h0 h1).mono ?_; rintro e w' ⟨rfl, rfl⟩) | (go_at_call 35; refine (Go.Proofs.Tryd.strconv_Itoa _ l0 l1 _ ht).mono ?_; rintro e w' ⟨rfl, k, os, rfl⟩))
        go_ret
        exact ⟨ret_str (str_cat _ _), Lib.below_grow _ _ (Nat.le_refl _) _ _⟩
      · have e1 : printS b = [60, 61] ++ Lib.itoa (valV b) := by simp [printS, h, f, r]
        rw [e1]
        clear e1 l
        go_enter Tryd.func28, Tryd.ntmps28
        go_wp2_with (first | (go_at_call 13; refine (rvalue_any _ _ h0 h1).mono ?_; rintro e w' ⟨rfl, rfl⟩) | (go_at_call 16; refine (rright_any _ _ h0 h1).mono ?_; rintro e w' ⟨rfl, rfl⟩) | (go_at_call 35; refine (Go.Proofs.Tryd.strconv_Itoa _ l0 l1 _ ht).mono ?_; rintro e w' ⟨rfl, k, os, rfl⟩))
        go_ret
        exact ⟨ret_str (str_cat _ _), Lib.below_grow _ _ (Nat.le_refl _) _ _⟩
end Go.Proofs.YtaagfiebcnnjjaaDoor
