/-
  The contract of the document's Parse of bounds, and the walk of the law BoundTexts: for every bound and text it returns true, and nothing that was there has turned; the conditions: the text takes at most 2^47 bytes (the form's own reach), and the library's table and its two errors lie as their texts lay them.
-/
import Derived.Test.YtaagfiebcnnjjaaDoorBz
import Derived.OpenShut
namespace Go.Proofs.YtaagfiebcnnjjaaDoor
open Go.RowKit
set_option linter.unusedVariables false

theorem numS_some (m : List UInt8) (h : numS m = true) : numV m = some (numN m) := by
  unfold numS at h
  unfold numN
  cases x : numV m
  · rw [x] at h; cases h
  · rfl
theorem numS_none (m : List UInt8) (h : numS m = false) : numV m = none := by
  unfold numS at h
  cases x : numV m
  · rfl
  · rw [x] at h; cases h
/-- What the second sign says of a right bound's text. -/
theorem second (c : Int) (fc : finB c = true) (x : UInt8) (m : List UInt8) (a : UInt8) (h : printS c = a :: x :: m) : (x = 61 ↔ valR c = true) ∧ Lib.itoa (valV c) = (if valR c then m else x :: m) := by
  rw [printS_fin c fc] at h
  cases v : valR c <;> rw [v] at h
  · have h : Lib.itoa (valV c) = x :: m := (List.cons.inj h).2
    refine ⟨⟨fun e => ?_, fun e => by cases e⟩, h⟩
    subst e
    exact absurd h (itoa_not_eq _ _)
  · have h := (List.cons.inj h).2
    have h1 : (61 : UInt8) = x := (List.cons.inj h).1
    have h2 : Lib.itoa (valV c) = m := (List.cons.inj h).2
    exact ⟨⟨fun _ => rfl, fun _ => h1.symm⟩, h2⟩
/-- Where the document's Parse answers ErrForm there is no bound with that text. -/
theorem rparse_none (l : List UInt8) (h1 : l ≠ [105, 110, 102]) (r : Bool) (m : List UInt8)
    (hr : ∀ c, finB c = true → printS c = l → valR c = r ∧ Lib.itoa (valV c) = m)
    (hbad : numS m = false ∨ ofE (numN m) ≠ 0 ∨ printS (ofB (numN m) r) ≠ l) : ParseIs l 0 7 := by
  refine .inr ⟨rfl, rfl, fun c rc e => ?_⟩
  rcases fin_or_inf rc with rfl | fc
  · rw [printS_inf] at e
    exact h1 e.symm
  · obtain ⟨v, i⟩ := hr c fc e
    have vc := valV_range c fc
    have hv := numV_itoa (valV c) vc.1 vc.2
    rw [i] at hv
    obtain ⟨b1, b2⟩ := ofB_back c fc
    rcases hbad with h | h | h
    · rw [numS_none m h] at hv
      cases hv
    · have : numN m = valV c := by unfold numN; rw [hv]; rfl
      rw [this] at h
      exact h b2
    · have : numN m = valV c := by unfold numN; rw [hv]; rfl
      rw [this, ← v, b1] at h
      exact h e
theorem rparse_good (l m : List UInt8) (r : Bool) (he : ofE (numN m) = 0) (hp : printS (ofB (numN m) r) = l) : ParseIs l (ofB (numN m) r) 0 :=
  .inl ⟨rfl, right_of_fin (ofB_props _ r he).1, hp⟩

theorem rparse_inf (s : ByteArray) (w : World) (h : s.data.toList = [105, 110, 102]) :
    Calls Tryd.prog 27 #[.string s] w fun e w' => ∃ b er, e = .returned (.tuple #[.int .i32 b, .int .i64 er]) ∧ ParseIs s.data.toList b er ∧ Below w.heap.size w w' := by
  have hp : Hid (ParseIs s.data.toList 2147483647 0) := .inl ⟨rfl, right_inf, by rw [h]; exact printS_inf⟩
  have hi : (s.toList == [105, 110, 102]) = true := by rw [ByteArray.toList_eq, h]; rfl
  clear h
  go_enter Tryd.func27, Tryd.ntmps27
  go_wp2_with fail
  go_ret2
  exact ⟨_, _, rfl, hp.out, Below.refl _ _⟩
theorem rparse_empty (s : ByteArray) (w : World) (h : s.size = 0) :
    Calls Tryd.prog 27 #[.string s] w fun e w' => ∃ b er, e = .returned (.tuple #[.int .i32 b, .int .i64 er]) ∧ ParseIs s.data.toList b er ∧ Below w.heap.size w w' := by
  have hl : s.data.toList = [] := List.length_eq_zero_iff.1 (by rw [len_of]; exact h)
  have K : Hid (ParseIs s.data.toList 0 7) := by
    rw [hl]
    exact .inr ⟨rfl, rfl, fun c rc => none_of_first _ (by intro e; cases e) (by intro m e; cases e) c rc⟩
  obtain rfl : s = ByteArray.empty := by
    apply ByteArray.ext
    exact Array.eq_empty_of_size_eq_zero h
  clear h hl
  go_enter Tryd.func27, Tryd.ntmps27
  go_wp2_with fail
  go_ret2
  exact ⟨_, _, rfl, K.out, Below.refl _ _⟩

theorem bounds_ofB (v : Int) (r : Bool) : -2147483648 ≤ ofB v r ∧ ofB v r ≤ 2147483647 := by
  unfold ofB
  split
  · omega
  · cases r
    · simp only [Bool.false_eq_true, if_false]; omega
    · simp only [if_true]; omega
theorem ne_bytes (a : List UInt8) (s : ByteArray) (h : a ≠ s.data.toList) : ((⟨a.toArray⟩ : ByteArray).toList == s.toList) = false := by
  rw [ByteArray.toList_eq, ByteArray.toList_eq]
  simpa using h

set_option maxHeartbeats 1000000 in
theorem rparse_two (s : ByteArray) (w : World) (hs : 1 < s.size) (hbig : s.size ≤ 9223372036854775807) (h1 : s.data.toList ≠ [105, 110, 102]) (h2 : ((s[1].toNat : Int) == 61) = true)
    (hr : ∀ c, finB c = true → printS c = s.data.toList → valR c = true ∧ Lib.itoa (valV c) = s.data.toList.drop 2) (ht : Pow w) :
    Calls Tryd.prog 27 #[.string s] w fun e w' => ∃ b er, e = .returned (.tuple #[.int .i32 b, .int .i64 er]) ∧ ParseIs s.data.toList b er ∧ Below w.heap.size w w' := by
  have hi := not_inf s h1
  have KN := hide1 (rparse_none s.data.toList h1 true (s.data.toList.drop 2) hr)
  have KG := hide1 (rparse_good s.data.toList (s.data.toList.drop 2) true)
  have BB := bounds_ofB (numN (s.data.toList.drop 2)) true
  have HD : Hid ((s.extract 2 s.size).data.toList = s.data.toList.drop 2) := drop_of s 2
  have HZ : (s.extract 2 s.size).size ≤ 9223372036854775807 := by simp; omega
  have HZ := hide1 HZ
  have NE := hide1 (fun a => ne_bytes a s)
  clear hr h1
  go_enter Tryd.func27, Tryd.ntmps27
  go_wp2_with fail
  generalize s.data.toList.drop 2 = m at *
  refine (numberR_any _ _ HZ.out).mono ?_
  rw [HD.out]
  rintro e w' ⟨rfl, rfl⟩
  clear HZ HD
  cases q : numS m
  · go_wp2_with (go_at_call 31; refine (rof_any _ _ _).mono ?_; rintro e w' ⟨rfl, rfl⟩)
    go_ret2
    exact ⟨_, _, rfl, KN.out (.inl q), Below.refl _ _⟩
  · by_cases g : ofE (numN m) = 0
    · by_cases p : printS (ofB (numN m) true) = s.data.toList
      · have KP := KG.out g p
        have KP := hide1 KP
        have P := hide1 p
        clear KN KG p
        go_wp2_with fail
        refine (rof_any _ _ _).mono ?_
        rintro e w' ⟨rfl, rfl⟩
        go_wp2_with fail
        refine (rprint_any _ _ BB.1 BB.2 ht).mono ?_
        rw [P.out, ← bytes_of s]
        rintro e w1 ⟨rfl, h1⟩
        go_wp2
        go_ret2
        exact ⟨_, _, rfl, KP.out, h1⟩
      · have KP := KN.out (.inr (.inr p))
        have KP := hide1 KP
        have N := hide1 (NE.out _ p)
        clear KN KG p
        go_wp2_with fail
        refine (rof_any _ _ _).mono ?_
        rintro e w' ⟨rfl, rfl⟩
        go_wp2_with fail
        refine (rprint_any _ _ BB.1 BB.2 ht).mono ?_
        rintro e w1 ⟨rfl, h1⟩
        have N2 := N.out
        clear N
        generalize (⟨(printS (ofB (numN m) true)).toArray⟩ : ByteArray) = z at *
        go_wp2
        go_ret2
        exact ⟨_, _, rfl, KP.out, h1⟩
    · have KP := KN.out (.inr (.inl g))
      have KP := hide1 KP
      have g' : (ofE (numN m) != 0) = true := by simpa using g
      clear KN KG g
      go_wp2_with (go_at_call 31; refine (rof_any _ _ _).mono ?_; rintro e w' ⟨rfl, rfl⟩)
      go_ret2
      exact ⟨_, _, rfl, KP.out, Below.refl _ _⟩
set_option maxHeartbeats 1000000 in
theorem rparse_one (s : ByteArray) (w : World) (hs : 1 < s.size) (hbig : s.size ≤ 9223372036854775807) (h1 : s.data.toList ≠ [105, 110, 102]) (h2 : ((s[1].toNat : Int) == 61) = false)
    (hr : ∀ c, finB c = true → printS c = s.data.toList → valR c = false ∧ Lib.itoa (valV c) = s.data.toList.drop 1) (ht : Pow w) :
    Calls Tryd.prog 27 #[.string s] w fun e w' => ∃ b er, e = .returned (.tuple #[.int .i32 b, .int .i64 er]) ∧ ParseIs s.data.toList b er ∧ Below w.heap.size w w' := by
  have hi := not_inf s h1
  have KN := hide1 (rparse_none s.data.toList h1 false (s.data.toList.drop 1) hr)
  have KG := hide1 (rparse_good s.data.toList (s.data.toList.drop 1) false)
  have BB := bounds_ofB (numN (s.data.toList.drop 1)) false
  have HD : Hid ((s.extract 1 s.size).data.toList = s.data.toList.drop 1) := drop_of s 1
  have HZ : (s.extract 1 s.size).size ≤ 9223372036854775807 := by simp; omega
  have HZ := hide1 HZ
  have NE := hide1 (fun a => ne_bytes a s)
  clear hr h1
  go_enter Tryd.func27, Tryd.ntmps27
  go_wp2_with fail
  generalize s.data.toList.drop 1 = m at *
  refine (numberR_any _ _ HZ.out).mono ?_
  rw [HD.out]
  rintro e w' ⟨rfl, rfl⟩
  clear HZ HD
  cases q : numS m
  · go_wp2_with (go_at_call 31; refine (rof_any _ _ _).mono ?_; rintro e w' ⟨rfl, rfl⟩)
    go_ret2
    exact ⟨_, _, rfl, KN.out (.inl q), Below.refl _ _⟩
  · by_cases g : ofE (numN m) = 0
    · by_cases p : printS (ofB (numN m) false) = s.data.toList
      · have KP := KG.out g p
        have KP := hide1 KP
        have P := hide1 p
        clear KN KG p
        go_wp2_with fail
        refine (rof_any _ _ _).mono ?_
        rintro e w' ⟨rfl, rfl⟩
        go_wp2_with fail
        refine (rprint_any _ _ BB.1 BB.2 ht).mono ?_
        rw [P.out, ← bytes_of s]
        rintro e w1 ⟨rfl, h1⟩
        go_wp2
        go_ret2
        exact ⟨_, _, rfl, KP.out, h1⟩
      · have KP := KN.out (.inr (.inr p))
        have KP := hide1 KP
        have N := hide1 (NE.out _ p)
        clear KN KG p
        go_wp2_with fail
        refine (rof_any _ _ _).mono ?_
        rintro e w' ⟨rfl, rfl⟩
        go_wp2_with fail
        refine (rprint_any _ _ BB.1 BB.2 ht).mono ?_
        rintro e w1 ⟨rfl, h1⟩
        have N2 := N.out
        clear N
        generalize (⟨(printS (ofB (numN m) false)).toArray⟩ : ByteArray) = z at *
        go_wp2
        go_ret2
        exact ⟨_, _, rfl, KP.out, h1⟩
    · have KP := KN.out (.inr (.inl g))
      have KP := hide1 KP
      have g' : (ofE (numN m) != 0) = true := by simpa using g
      clear KN KG g
      go_wp2_with (go_at_call 31; refine (rof_any _ _ _).mono ?_; rintro e w' ⟨rfl, rfl⟩)
      go_ret2
      exact ⟨_, _, rfl, KP.out, Below.refl _ _⟩
set_option maxHeartbeats 1000000 in
theorem rparse_short (s : ByteArray) (w : World) (hs0 : 0 < s.size) (hs : s.size ≤ 1) (hbig : s.size ≤ 9223372036854775807) (h1 : s.data.toList ≠ [105, 110, 102]) (hr : ∀ c, finB c = true → printS c = s.data.toList → valR c = false ∧ Lib.itoa (valV c) = s.data.toList.drop 1) (ht : Pow w) :
    Calls Tryd.prog 27 #[.string s] w fun e w' => ∃ b er, e = .returned (.tuple #[.int .i32 b, .int .i64 er]) ∧ ParseIs s.data.toList b er ∧ Below w.heap.size w w' := by
  have hi := not_inf s h1
  have KN := hide1 (rparse_none s.data.toList h1 false (s.data.toList.drop 1) hr)
  have KG := hide1 (rparse_good s.data.toList (s.data.toList.drop 1) false)
  have BB := bounds_ofB (numN (s.data.toList.drop 1)) false
  have HD : Hid ((s.extract 1 s.size).data.toList = s.data.toList.drop 1) := drop_of s 1
  have HZ : (s.extract 1 s.size).size ≤ 9223372036854775807 := by simp; omega
  have HZ := hide1 HZ
  have NE := hide1 (fun a => ne_bytes a s)
  have hne : ¬ s = ByteArray.empty := by rintro rfl; simp at hs0
  clear hr h1
  go_enter Tryd.func27, Tryd.ntmps27
  go_wp2_with fail
  generalize s.data.toList.drop 1 = m at *
  refine (numberR_any _ _ HZ.out).mono ?_
  rw [HD.out]
  rintro e w' ⟨rfl, rfl⟩
  clear HZ HD
  cases q : numS m
  · go_wp2_with (go_at_call 31; refine (rof_any _ _ _).mono ?_; rintro e w' ⟨rfl, rfl⟩)
    go_ret2
    exact ⟨_, _, rfl, KN.out (.inl q), Below.refl _ _⟩
  · by_cases g : ofE (numN m) = 0
    · by_cases p : printS (ofB (numN m) false) = s.data.toList
      · have KP := KG.out g p
        have KP := hide1 KP
        have P := hide1 p
        clear KN KG p
        go_wp2_with fail
        refine (rof_any _ _ _).mono ?_
        rintro e w' ⟨rfl, rfl⟩
        go_wp2_with fail
        refine (rprint_any _ _ BB.1 BB.2 ht).mono ?_
        rw [P.out, ← bytes_of s]
        rintro e w1 ⟨rfl, h1⟩
        go_wp2
        go_ret2
        exact ⟨_, _, rfl, KP.out, h1⟩
      · have KP := KN.out (.inr (.inr p))
        have KP := hide1 KP
        have N := hide1 (NE.out _ p)
        clear KN KG p
        go_wp2_with fail
        refine (rof_any _ _ _).mono ?_
        rintro e w' ⟨rfl, rfl⟩
        go_wp2_with fail
        refine (rprint_any _ _ BB.1 BB.2 ht).mono ?_
        rintro e w1 ⟨rfl, h1⟩
        have N2 := N.out
        clear N
        generalize (⟨(printS (ofB (numN m) false)).toArray⟩ : ByteArray) = z at *
        go_wp2
        go_ret2
        exact ⟨_, _, rfl, KP.out, h1⟩
    · have KP := KN.out (.inr (.inl g))
      have KP := hide1 KP
      have g' : (ofE (numN m) != 0) = true := by simpa using g
      clear KN KG g
      go_wp2_with (go_at_call 31; refine (rof_any _ _ _).mono ?_; rintro e w' ⟨rfl, rfl⟩)
      go_ret2
      exact ⟨_, _, rfl, KP.out, Below.refl _ _⟩

theorem list_two (s : ByteArray) (hs : 1 < s.size) : ∃ a m, s.data.toList = a :: s[1] :: m := by
  have h1 : s.data.toList.drop 1 = s[1] :: s.data.toList.drop 2 := by
    rw [List.drop_eq_getElem_cons (by simpa using hs)]
    rfl
  have h0 : s.data.toList = s[0] :: s.data.toList.drop 1 := by
    have := List.drop_eq_getElem_cons (l := s.data.toList) (i := 0) (by rw [len_of]; omega)
    exact this
  exact ⟨s[0], s.data.toList.drop 2, by rw [h1] at h0; exact h0⟩
theorem rparse_any (s : ByteArray) (w : World) (hbig : s.size ≤ 9223372036854775807) (ht : Pow w) :
    Calls Tryd.prog 27 #[.string s] w fun e w' => ∃ b er, e = .returned (.tuple #[.int .i32 b, .int .i64 er]) ∧ ParseIs s.data.toList b er ∧ Below w.heap.size w w' := by
  by_cases h1 : s.data.toList = [105, 110, 102]
  · exact rparse_inf s w h1
  by_cases h0 : s.size = 0
  · exact rparse_empty s w h0
  by_cases hs : s.size = 1
  · refine rparse_short s w (by omega) (by omega) hbig h1 (fun c fc e => ?_) ht
    have hl := congrArg List.length e
    rw [printS_fin c fc, len_of, hs, List.length_append] at hl
    obtain ⟨x, r, hx, _⟩ := itoa_head (valV c)
    rw [hx, List.length_cons] at hl
    have hq : 1 ≤ (if valR c = true then [60, 61] else [60] : List UInt8).length := by split <;> simp
    omega
  have hs : 1 < s.size := by omega
  obtain ⟨a, m, hm⟩ := list_two s hs
  have d1 : s.data.toList.drop 1 = s[1] :: m := by rw [hm]; rfl
  have d2 : s.data.toList.drop 2 = m := by rw [hm]; rfl
  by_cases h2 : s[1] = 61
  · refine rparse_two s w hs hbig h1 (by rw [h2]; rfl) (fun c fc e => ?_) ht
    rw [hm] at e
    obtain ⟨i, j⟩ := second c fc _ _ _ e
    have v := i.1 h2
    rw [v] at j
    exact ⟨v, j.trans d2.symm⟩
  · have h3 : ((s[1].toNat : Int) == 61) = false := by
      have : s[1].toNat ≠ 61 := fun e => h2 (UInt8.toNat_inj.1 (show s[1].toNat = (61 : UInt8).toNat from e))
      simp
      omega
    refine rparse_one s w hs hbig h1 h3 (fun c fc e => ?_) ht
    rw [hm] at e
    obtain ⟨i, j⟩ := second c fc _ _ _ e
    have v : valR c = false := by
      cases q : valR c
      · rfl
      · exact absurd (i.2 q) h2
    rw [v] at j
    exact ⟨v, j.trans d1.symm⟩

namespace boundTexts
theorem printS_len (b : Int) : (printS b).length ≤ 30 := by
  unfold printS
  split
  · simp
  · split
    · next f =>
      have := valV_range b f
      have := Lib.itoa_length_le (valV b) (by omega) (by omega)
      split <;> simp <;> omega
    · simp
/-- There and back. -/
theorem back (b z g : Int) (h : ParseIs (printS b) z g) : (rightB b = true ∧ g = 0 ∧ z = b) ∨ (rightB b = false ∧ g = 7 ∧ z = 0) := by
  cases r : rightB b
  · right
    rcases h with ⟨rfl, rz, pz⟩ | ⟨rfl, rfl, _⟩
    · have e : printS b = [] := by
        have h1 : b ≠ 2147483647 := by rintro rfl; rw [right_inf] at r; cases r
        have f : finB b = false := by
          cases f : finB b
          · rfl
          · rw [right_of_fin f] at r; cases r
        simp [printS, h1, f]
      rw [e] at pz
      rcases fin_or_inf rz with rfl | fz
      · rw [printS_inf] at pz; cases pz
      · rw [printS_fin z fz] at pz
        split at pz <;> cases pz
    · exact ⟨rfl, rfl, rfl⟩
  · left
    rcases h with ⟨rfl, rz, pz⟩ | ⟨rfl, rfl, n⟩
    · exact ⟨rfl, rfl, print_inj _ _ rz r pz⟩
    · exact absurd rfl (n b r)

set_option maxHeartbeats 1000000 in
theorem walk (b : Int) (hb : (Lit.int .i32 b).wf = true) (s : ByteArray) (hs : s.size ≤ maxLen) (w : World) (ht : Pow w) (he : Errs w) (hlim : s.size ≤ 140737488355328) :
    Calls Tryd.prog 5 #[.int .i32 b, .string s] w fun e w' => e = .returned (.bool true) ∧ Below w.heap.size w w' := by
  obtain ⟨b0, b1⟩ := bounds_i32 hb
  clear hb hs
  go_enter Tryd.func5, Tryd.ntmps5
  go_wp2_with fail
  refine (print_any _ _ ht).mono ?_
  rintro e w1 ⟨rfl, h1⟩
  go_wp2_with fail
  refine (parse_any s _ hlim (pow_later ht h1) (errs_later he h1)).mono ?_
  rintro e w2 ⟨x, ex, rfl, px, h2⟩
  have h2 := below_after h1 h2
  go_wp2_with fail
  refine (rparse_any s _ (by omega) (pow_later ht h2)).mono ?_
  rintro e w3 ⟨y, ey, rfl, py, h3⟩
  have h3 := below_after h2 h3
  obtain ⟨rfl, rfl⟩ := px.one py
  clear py
  go_wp2_with fail
  refine (parse_any ⟨(printS b).toArray⟩ _ (by show (printS b).toArray.size ≤ _; have := printS_len b; simp; omega) (pow_later ht h3) (errs_later he h3)).mono ?_
  rintro e w4 ⟨z, ez, rfl, pz, h4⟩
  have h4 := below_after h3 h4
  have bk := back b z ez pz
  have PX := hide1 px
  have h4' := hide1 h4
  clear pz px
  go_wp2_with fail
  refine (from_below (live_any _ (pow_later ht h4)) h4).mono ?_
  rintro e w5 ⟨rfl, h5⟩
  go_wp2_with fail
  refine (from_below (rprint_any _ _ b0 b1 (pow_later ht h5)) h5).mono ?_
  rintro e w6 ⟨rfl, h6⟩
  have EX : ex = 0 ∨ ex = 7 := by
    rcases PX.out with ⟨e, _, _⟩ | ⟨e, _, _⟩
    · exact .inl e
    · exact .inr e
  clear h1 h2 h3 h4 h5 h4'
  rcases EX with rfl | rfl
  · have P : Hid (printS x = s.data.toList) := by
      rcases PX.out with ⟨_, _, p⟩ | ⟨e7, _, _⟩
      · exact p
      · cases e7
    clear PX
    rcases bk with ⟨r, rfl, rfl⟩ | ⟨r, rfl, rfl⟩
    all_goals
      go_wp2_with fail
      refine (right_any _ _).mono ?_
      rw [r]
      rintro e w7 ⟨rfl, rfl⟩
      go_wp2_with fail
      refine (from_below (print_any _ _ (pow_later ht h6)) h6).mono ?_
      rw [P.out, ← bytes_of s]
      rintro e w8 ⟨rfl, h8⟩
      go_wp2
      go_ret
      exact ⟨rfl, h8⟩
  · clear PX
    rcases bk with ⟨r, rfl, rfl⟩ | ⟨r, rfl, rfl⟩
    all_goals
      go_wp2_with fail
      refine (right_any _ _).mono ?_
      rw [r]
      rintro e w7 ⟨rfl, rfl⟩
      go_wp2_with fail
      go_ret
      exact ⟨rfl, h6⟩
end boundTexts
end Go.Proofs.YtaagfiebcnnjjaaDoor
