/-
  The document's Next: outside, at the end, numbers, words.
-/
import Derived.Test.YtabjadbpllhgkaaDoorMa
namespace Go.Proofs.YtabjadbpllhgkaaDoor
open Go.RowKit
set_option linter.unusedVariables false
def nextXW (s : ByteArray) (b : Nat) (r : Int × Int × Nat × Int) : Value :=
  if r.1 = 0 then .tuple #[tokX r.2.1 (s.extract b (b + r.2.2.1)) r.2.2.2 b, .int .i64 ((b + r.2.2.1 : Nat)), .int .i64 0]
  else .tuple #[tokX 0 ⟨#[]⟩ 0 0, .int .i64 b, .int .i64 r.1]
def nextXV (s : ByteArray) (a : Nat) : Value := nextXW s (begL s.data.toList a) (tokL s.data.toList a)
theorem dig_not (x : Int) (h : digI x = true) : lttI x = false := by
  obtain ⟨h0, h1⟩ := digI_bd h
  unfold lttI
  simp
  omega
theorem xnum_next (s : ByteArray) (a : Nat) (ha : a < s.size) (hd : digI (s[a].toNat : Int) = true) :
    xnumV s a (spanL digI (s.data.toList.drop a)) (capS (s.data.toList.drop a) 0) ((s[a].toNat : Int) == 48) = nextXW s a (firstM (s.data.toList.drop a)) := by
  have e := drop_next s a ha
  have f : firstM (s.data.toList.drop a) = numM ((s.data.toList.drop a).take (spanL digI (s.data.toList.drop a))) := by
    rw [e, firstM, if_neg (by rw [dig_not _ hd]; decide), if_pos hd]
  have le : spanL digI (s.data.toList.drop a) ≤ (s.data.toList.drop a).length := span_le _ _
  have p : 0 < spanL digI (s.data.toList.drop a) := by rw [e, spanL, if_pos hd]; omega
  have hl : ((s.data.toList.drop a).take (spanL digI (s.data.toList.drop a))).length = spanL digI (s.data.toList.drop a) := by rw [List.length_take]; omega
  have hh : ((s.data.toList.drop a).take (spanL digI (s.data.toList.drop a))).head? = some s[a] := by
    obtain ⟨q, hq⟩ : ∃ q, spanL digI (s.data.toList.drop a) = q + 1 := ⟨_, (Nat.succ_pred_eq_of_pos p).symm⟩
    rw [hq, e, List.take_succ_cons]
    rfl
  have hn := cap_num (s.data.toList.drop a) 0 (by omega)
  rw [f]
  unfold numM xnumV
  rw [hl, hh, hn]
  generalize spanL digI (s.data.toList.drop a) = m at *
  generalize capS (s.data.toList.drop a) 0 = c at *
  by_cases z : ((s[a].toNat : Int) == 48) = true
  · by_cases g : 1 < m
    · rw [if_pos (by simp [z, g]), if_pos ⟨by simp [z], g⟩]
      rfl
    · by_cases b : 2147483647 < c
      · rw [if_pos (by simp [b]), if_neg (by rintro ⟨-, q⟩; exact g q), if_neg (by omega)]
        rfl
      · rw [if_neg (by simp [g, b]), if_neg (by rintro ⟨-, q⟩; exact g q), if_pos (by omega)]
        rfl
  · by_cases b : 2147483647 < c
    · rw [if_pos (by simp [b]), if_neg (by rintro ⟨q, -⟩; simp at q; simp [q] at z), if_neg (by omega)]
      rfl
    · rw [if_neg (by simp at z; simp [b, z]), if_neg (by rintro ⟨q, -⟩; simp at q; simp [q] at z), if_pos (by omega)]
      rfl
theorem xnumber_any (s : ByteArray) (a : Nat) (w : World) (ha : a < s.size) (hs : s.size ≤ 140737488355328) (hd : digI (s[a].toNat : Int) = true) :
    Calls Tryd.prog 25 #[.string s, .int .i64 a] w fun e w' => e = .returned (nextXW s a (firstM (s.data.toList.drop a))) ∧ Below w.heap.size w w' := by
  have := xnumber_raw s a w ha hs
  rw [xnum_next s a ha hd] at this
  exact this
set_option maxRecDepth 100000 in
theorem xnext_out (s : ByteArray) (i : Int) (w : World) (hs : s.size ≤ 140737488355328) (h : i < 0 ∨ (s.size : Int) < i) :
    Calls Tryd.prog 10 #[.string s, .int .i64 i] w fun e w' => e = .returned (.tuple #[tokX 0 ⟨#[]⟩ 0 0, .int .i64 0, .int .i64 2]) ∧ Below w.heap.size w w' := by
  by_cases h0 : i < 0
  · go_enter Tryd.func10, Tryd.ntmps10
    go_wp2_with fail
    refine bodyPost_ret (v := .tuple #[tokX 0 ⟨#[]⟩ 0 0, .int .i64 0, .int .i64 2]) (by simp [results, Tryd.results10, go_sem, *]) rfl ⟨rfl, ?_⟩
    exact Below.alloc (Below.refl _ _) (Nat.le_refl _) _
  · have h1 : (s.size : Int) < i := by omega
    clear h
    go_enter Tryd.func10, Tryd.ntmps10
    go_wp2_with fail
    refine bodyPost_ret (v := .tuple #[tokX 0 ⟨#[]⟩ 0 0, .int .i64 0, .int .i64 2]) (by simp [results, Tryd.results10, go_sem, *]) rfl ⟨rfl, ?_⟩
    exact Below.alloc (Below.refl _ _) (Nat.le_refl _) _
/-- What begin tells, by a letter. -/
def BegAt (s : ByteArray) (a b : Nat) : Prop := ∀ w, Calls Tryd.prog 23 #[.string s, .int .i64 a] w fun e w' => e = .returned (.int .i64 (b : Int)) ∧ w' = w
theorem beg_at (s : ByteArray) (a : Nat) (ha : a ≤ s.size) (hs : s.size ≤ 140737488355328) : BegAt s a (begL s.data.toList a) := fun w => begin_any s a w ha hs
theorem cut_at0 (s : ByteArray) (b : Nat) : s.extract b b = ⟨#[]⟩ := by
  apply ByteArray.ext
  simp
set_option maxRecDepth 100000 in
theorem xnext_end (s : ByteArray) (a : Nat) (w : World) (ha : a ≤ s.size) (hs : s.size ≤ 140737488355328) (hb : BegAt s a s.size) :
    Calls Tryd.prog 10 #[.string s, .int .i64 a] w fun e w' => e = .returned (.tuple #[tokX 0 ⟨#[]⟩ 0 s.size, .int .i64 s.size, .int .i64 0]) ∧ Below w.heap.size w w' := by
  have i0 : ¬ (a : Int) < 0 := by omega
  have i1 : ¬ (s.size : Int) < (a : Int) := by omega
  have HB := hideR hb
  clear hb
  go_enter Tryd.func10, Tryd.ntmps10
  go_wp2_with fail
  refine (HB.out _).mono ?_
  rintro e w1 ⟨rfl, rfl⟩
  go_wp2_with fail
  refine bodyPost_ret (v := .tuple #[tokX 0 ⟨#[]⟩ 0 s.size, .int .i64 s.size, .int .i64 0]) (by simp [results, Tryd.results10, go_sem, *]) rfl ⟨rfl, ?_⟩
  exact Below.alloc (Below.refl _ _) (Nat.le_refl _) _
set_option maxRecDepth 100000 in
set_option maxHeartbeats 1000000 in
theorem xnext_num (s : ByteArray) (a b : Nat) (w : World) (ha : a ≤ s.size) (hs : s.size ≤ 140737488355328) (hb : BegAt s a b) (hbs : b < s.size) (hd : digI (s[b].toNat : Int) = true) :
    Calls Tryd.prog 10 #[.string s, .int .i64 a] w fun e w' => e = .returned (nextXW s b (firstM (s.data.toList.drop b))) ∧ Below w.heap.size w w' := by
  have i0 : ¬ (a : Int) < 0 := by omega
  have i1 : ¬ (s.size : Int) < (a : Int) := by omega
  have i2 : (0 : Int) ≤ (b : Int) := by omega
  have i3 : (b : Int) < (s.size : Int) := by omega
  have i4 : ¬ (b : Int) = (s.size : Int) := by omega
  have HB := hideR hb
  have HD : Hid (∀ w, Calls Tryd.prog 24 #[.int .u8 (s[b].toNat : Int)] w fun e w' => e = .returned (.bool true) ∧ w' = w) := hideR fun w => by have := xdigit_any (s[b].toNat : Int) w; rw [hd] at this; exact this
  have HN := hideR fun w => xnumber_any s b w hbs hs hd
  have T0 := hideR (x_start w)
  clear hb hd
  unfold nextXW at *
  generalize firstM (s.data.toList.drop b) = r at *
  by_cases c : r.1 = 0
  · rw [if_pos c] at HN ⊢
    clear c
    go_enter Tryd.func10, Tryd.ntmps10
    go_wp2_with fail
    refine (HB.out _).mono ?_
    rintro e w1 ⟨rfl, rfl⟩
    go_wp2_with fail
    refine (HD.out _).mono ?_
    rintro e w1 ⟨rfl, rfl⟩
    go_wp2_with fail
    have hz : w.heap.size < (w.alloc (.cells #[.int .i64 0, .string ⟨#[]⟩, .int .i64 0, .int .i64 0] 29)).heap.size := by simp
    generalize w.alloc (.cells #[.int .i64 0, .string ⟨#[]⟩, .int .i64 0, .int .i64 0] 29) = W at *
    refine (HN.out _).mono ?_
    rintro e w1 ⟨rfl, hb⟩
    obtain ⟨a0, a1, a2, a3, f0, f1, f2, f3, B0⟩ := x_later T0.out hb hz
    clear hb hz T0 HN HB HD
    go_wp2_with fail
    refine bodyPost_ret (v := .tuple #[tokX r.2.1 (s.extract b (b + r.2.2.1)) r.2.2.2 b, .int .i64 ((b + r.2.2.1 : Nat)), .int .i64 0]) (by simp [results, Tryd.results10, go_sem, *]) rfl ⟨rfl, ?_⟩
    exact set4 B0 (Nat.le_refl _) _ _ _ _
  · rw [if_neg c] at HN ⊢
    clear c
    go_enter Tryd.func10, Tryd.ntmps10
    go_wp2_with fail
    refine (HB.out _).mono ?_
    rintro e w1 ⟨rfl, rfl⟩
    go_wp2_with fail
    refine (HD.out _).mono ?_
    rintro e w1 ⟨rfl, rfl⟩
    go_wp2_with fail
    have hz : w.heap.size < (w.alloc (.cells #[.int .i64 0, .string ⟨#[]⟩, .int .i64 0, .int .i64 0] 29)).heap.size := by simp
    generalize w.alloc (.cells #[.int .i64 0, .string ⟨#[]⟩, .int .i64 0, .int .i64 0] 29) = W at *
    refine (HN.out _).mono ?_
    rintro e w1 ⟨rfl, hb⟩
    obtain ⟨a0, a1, a2, a3, f0, f1, f2, f3, B0⟩ := x_later T0.out hb hz
    clear hb hz T0 HN HB HD
    go_wp2_with fail
    refine bodyPost_ret (v := .tuple #[tokX 0 ⟨#[]⟩ 0 0, .int .i64 b, .int .i64 r.1]) (by simp [results, Tryd.results10, go_sem, *]) rfl ⟨rfl, ?_⟩
    exact set4 B0 (Nat.le_refl _) _ _ _ _
theorem wrd_drop (s : ByteArray) (k : Nat) (h : k < s.size) : (wrdI (s[k].toNat : Int) = true → spanL wrdI (s.data.toList.drop k) = spanL wrdI (s.data.toList.drop (k + 1)) + 1) ∧ (wrdI (s[k].toNat : Int) = false → spanL wrdI (s.data.toList.drop k) = 0) := by
  have d := drop_next s k h
  exact ⟨fun g => by rw [d, spanL, if_pos g], fun g => by rw [d, spanL, if_neg (by rw [g]; decide)]⟩
set_option maxRecDepth 100000 in
set_option maxHeartbeats 1000000 in
theorem xnext_word (s : ByteArray) (a b : Nat) (w : World) (ha : a ≤ s.size) (hs : s.size ≤ 140737488355328) (hb : BegAt s a b) (hbs : b < s.size) (hd : digI (s[b].toNat : Int) = false) (hl : lttI (s[b].toNat : Int) = true) :
    Calls Tryd.prog 10 #[.string s, .int .i64 a] w fun e w' => e = .returned (.tuple #[tokX 1 (s.extract b (b + spanL wrdI (s.data.toList.drop b))) 0 b, .int .i64 ((b + spanL wrdI (s.data.toList.drop b) : Nat)), .int .i64 0]) ∧ Below w.heap.size w w' := by
  have i0 : ¬ (a : Int) < 0 := by omega
  have i1 : ¬ (s.size : Int) < (a : Int) := by omega
  have i2 : (0 : Int) ≤ (b : Int) := by omega
  have i3 : (b : Int) < (s.size : Int) := by omega
  have i4 : ¬ (b : Int) = (s.size : Int) := by omega
  have HB := hideR hb
  have HD : Hid (∀ w, Calls Tryd.prog 24 #[.int .u8 (s[b].toNat : Int)] w fun e w' => e = .returned (.bool false) ∧ w' = w) := hideR fun w => by have := xdigit_any (s[b].toNat : Int) w; rw [hd] at this; exact this
  have HL : Hid (∀ w, Calls Tryd.prog 26 #[.int .u8 (s[b].toNat : Int)] w fun e w' => e = .returned (.bool true) ∧ w' = w) := hideR fun w => by have := xletter_any (s[b].toNat : Int) w; rw [hl] at this; exact this
  have KD := hideR (fun (k : Nat) (h : k < s.size) w => xdigit_any (s[k].toNat : Int) w)
  have KL := hideR (fun (k : Nat) (h : k < s.size) w => xletter_any (s[k].toNat : Int) w)
  have WD := hideR (fun (k : Nat) (h : k < s.size) => wrd_drop s k h)
  have LE : Hid (∀ k, spanL wrdI (s.data.toList.drop k) ≤ s.size - k) := fun k => by have := span_le wrdI (s.data.toList.drop k); rw [List.length_drop, len_of] at this; exact this
  have I0 : Hid (b + spanL wrdI (s.data.toList.drop b) = b + spanL wrdI (s.data.toList.drop b)) := rfl
  have mle := LE.out b
  generalize hm : b + spanL wrdI (s.data.toList.drop b) = M at *
  replace I0 : Hid (b + spanL wrdI (s.data.toList.drop b) = M) := hm
  have mle2 : b ≤ M ∧ M ≤ s.size := by omega
  clear hm mle
  have T0 := hideR (x_start w)
  clear hb hd hl
  go_enter Tryd.func10, Tryd.ntmps10
  go_wp2_with fail
  refine (HB.out _).mono ?_
  rintro e w1 ⟨rfl, rfl⟩
  go_wp2_with fail
  refine (HD.out _).mono ?_
  rintro e w1 ⟨rfl, rfl⟩
  go_wp2_with fail
  refine (HL.out _).mono ?_
  rintro e w1 ⟨rfl, rfl⟩
  go_wp2_with fail
  clear HB HD HL
  generalize w.alloc (.cells #[.int .i64 0, .string ⟨#[]⟩, .int .i64 0, .int .i64 0] 29) = W at *
  go_loopw [7] (fun i wr => ∃ k : Nat, b ≤ k ∧ k ≤ s.size ∧ i = .int .i64 k ∧ wr = W ∧ Hid (k + spanL wrdI (s.data.toList.drop k) = M)) (fun i _ => s.size - (intOf i).toNat)
  case atStart => exact ⟨b, Nat.le_refl _, by omega, rfl, rfl, I0⟩
  case round =>
    obtain ⟨k, hbk, hk, rfl, rfl, E⟩ := hrel
    clear I0
    by_cases ck : k < s.size
    · have k0 : (0 : Int) ≤ (k : Int) := by omega
      have k1 : (k : Int) < (s.size : Int) := by omega
      have H1 := hideR (KL.out k ck)
      have H2 := hideR (KD.out k ck)
      have Y := WD.out k ck
      have Y1 := hideR Y.1
      have Y2 := hideR Y.2
      clear KL KD WD Y
      cases p : lttI (s[k].toNat : Int)
      · cases q : digI (s[k].toNat : Int)
        · rw [p] at H1
          rw [q] at H2
          cases r : ((s[k].toNat : Int) == 95)
          · have e1 : Hid (k = M) := by show _ = _; have := E.out; rw [Y2.out (by unfold wrdI; rw [p, q, r]; rfl)] at this; omega
            clear Y1 Y2 E LE p q
            have e2 := e1.out
            subst e2
            obtain ⟨x0, x1, x2, x3, f0, f1, f2, f3, B0⟩ := T0.out
            clear T0 e1
            go_wp2_with fail
            refine (H1.out _).mono ?_
            rintro e w1 ⟨rfl, rfl⟩
            go_wp2_with fail
            refine (H2.out _).mono ?_
            rintro e w1 ⟨rfl, rfl⟩
            go_wp2_with fail
            refine bodyPost_ret (v := .tuple #[tokX 1 (s.extract b k) 0 b, .int .i64 k, .int .i64 0]) (by simp [results, Tryd.results10, go_sem, *]) rfl ⟨rfl, ?_⟩
            exact set4 B0 (Nat.le_refl _) _ _ _ _
          · have e1 : Hid ((k + 1) + spanL wrdI (s.data.toList.drop (k + 1)) = M) := by show _ = _; have := E.out; rw [Y1.out (by unfold wrdI; rw [p, q, r]; rfl)] at this; omega
            clear Y1 Y2 E p q
            go_wp2_with fail
            refine (H1.out _).mono ?_
            rintro e w1 ⟨rfl, rfl⟩
            go_wp2_with fail
            refine (H2.out _).mono ?_
            rintro e w1 ⟨rfl, rfl⟩
            go_wp2_with fail
            go_roundw
            case rel => exact ⟨k + 1, by omega, by omega, by go_num, by first | rfl | trivial, e1⟩
            case measure => simp [intOf]; omega
        · rw [p] at H1
          rw [q] at H2
          have e1 : Hid ((k + 1) + spanL wrdI (s.data.toList.drop (k + 1)) = M) := by show _ = _; have := E.out; rw [Y1.out (by unfold wrdI; rw [p, q]; rfl)] at this; omega
          clear Y1 Y2 E p q
          go_wp2_with fail
          refine (H1.out _).mono ?_
          rintro e w1 ⟨rfl, rfl⟩
          go_wp2_with fail
          refine (H2.out _).mono ?_
          rintro e w1 ⟨rfl, rfl⟩
          go_wp2_with fail
          go_roundw
          case rel => exact ⟨k + 1, by omega, by omega, by go_num, by first | rfl | trivial, e1⟩
          case measure => simp [intOf]; omega
      · rw [p] at H1
        have e1 : Hid ((k + 1) + spanL wrdI (s.data.toList.drop (k + 1)) = M) := by show _ = _; have := E.out; rw [Y1.out (by unfold wrdI; rw [p]; rfl)] at this; omega
        clear Y1 Y2 E p H2
        go_wp2_with fail
        refine (H1.out _).mono ?_
        rintro e w1 ⟨rfl, rfl⟩
        go_wp2_with fail
        go_roundw
        case rel => exact ⟨k + 1, by omega, by omega, by go_num, by first | rfl | trivial, e1⟩
        case measure => simp [intOf]; omega
    · obtain rfl : k = s.size := by omega
      have e1 : Hid (s.size = M) := by show _ = _; have := E.out; have := LE.out s.size; omega
      have k1 : ¬ ((s.size : Int) < (s.size : Int)) := by omega
      clear KL KD WD E LE
      have e2 := e1.out
      subst e2
      obtain ⟨x0, x1, x2, x3, f0, f1, f2, f3, B0⟩ := T0.out
      clear T0 e1
      go_wp2_with fail
      refine bodyPost_ret (v := .tuple #[tokX 1 (s.extract b s.size) 0 b, .int .i64 s.size, .int .i64 0]) (by simp [results, Tryd.results10, go_sem, *]) rfl ⟨rfl, ?_⟩
      exact set4 B0 (Nat.le_refl _) _ _ _ _
end Go.Proofs.YtabjadbpllhgkaaDoor
