/-
  The document's number.
-/
import Derived.Test.YtabjadbpllhgkaaDoorLj
namespace Go.Proofs.YtabjadbpllhgkaaDoor
open Go.RowKit
set_option linter.unusedVariables false
abbrev tokX (k : Int) (t : ByteArray) (n a : Int) : Value := .agg #[.int .i64 k, .string t, .int .i64 n, .int .i64 a]
def XAt (wr w : World) : Prop := wr.cell? ⟨w.heap.size, 0, none⟩ = some (.int .i64 0) ∧ wr.cell? ⟨w.heap.size, 1, none⟩ = some (.string ⟨#[]⟩) ∧ wr.cell? ⟨w.heap.size, 2, none⟩ = some (.int .i64 0) ∧ wr.cell? ⟨w.heap.size, 3, none⟩ = some (.int .i64 0) ∧ wr.frozen? ⟨w.heap.size, 0, none⟩ = false ∧ wr.frozen? ⟨w.heap.size, 1, none⟩ = false ∧ wr.frozen? ⟨w.heap.size, 2, none⟩ = false ∧ wr.frozen? ⟨w.heap.size, 3, none⟩ = false ∧ Below w.heap.size w wr
theorem x_start (w : World) : XAt (w.alloc (.cells #[.int .i64 0, .string ⟨#[]⟩, .int .i64 0, .int .i64 0] 29)) w := ⟨by simp [go_sem], by simp [go_sem], by simp [go_sem], by simp [go_sem], by simp [go_sem], by simp [go_sem], by simp [go_sem], by simp [go_sem], Below.alloc (Below.refl _ _) (Nat.le_refl _) _⟩
theorem x_later {w wr w1 : World} (h : XAt wr w) (hb : Below wr.heap.size wr w1) (hz : w.heap.size < wr.heap.size) : XAt w1 w :=
  ⟨(hb.cell (p := ⟨w.heap.size, 0, none⟩) hz).trans h.1, (hb.cell (p := ⟨w.heap.size, 1, none⟩) hz).trans h.2.1, (hb.cell (p := ⟨w.heap.size, 2, none⟩) hz).trans h.2.2.1, (hb.cell (p := ⟨w.heap.size, 3, none⟩) hz).trans h.2.2.2.1, (hb.frozen (p := ⟨w.heap.size, 0, none⟩) hz).trans h.2.2.2.2.1, (hb.frozen (p := ⟨w.heap.size, 1, none⟩) hz).trans h.2.2.2.2.2.1, (hb.frozen (p := ⟨w.heap.size, 2, none⟩) hz).trans h.2.2.2.2.2.2.1, (hb.frozen (p := ⟨w.heap.size, 3, none⟩) hz).trans h.2.2.2.2.2.2.2.1, h.2.2.2.2.2.2.2.2.trans (hb.mono (by omega))⟩
/-- The value of the digits ahead, held below a limit. -/
def capS : List UInt8 → Nat → Nat
  | [], n => n
  | c :: l, n => if digI c.toNat then capS l (if n ≤ 2147483648 then n * 10 + c.toNat - 48 else n) else n
theorem cap_ge : ∀ (l : List UInt8) (n : Nat), 2147483648 ≤ n → 2147483648 ≤ capS l n
  | [], n, h => h
  | c :: l, n, h => by
    rw [capS]
    split
    · apply cap_ge l
      split
      · rename_i d _
        obtain ⟨d0, d1⟩ := digI_bd d
        omega
      · exact h
    · exact h
theorem cap_num : ∀ (l : List UInt8) (n : Nat), n ≤ 2147483647 → numU (l.take (spanL digI l)) n = if capS l n ≤ 2147483647 then some (capS l n) else none
  | [], n, h => by simp [spanL, numU, capS, h]
  | c :: l, n, h => by
    by_cases d : digI c.toNat = true
    · obtain ⟨d0, d1⟩ := digI_bd d
      have e : spanL digI (c :: l) = spanL digI l + 1 := by rw [spanL, if_pos d]
      rw [e, List.take_succ_cons, numU, capS, if_pos d, if_pos (by omega : n ≤ 2147483648)]
      have e2 : n * 10 + c.toNat - 48 = 10 * n + (c.toNat - 48) := by omega
      rw [e2]
      split
      · rename_i q
        have := cap_ge l (10 * n + (c.toNat - 48)) (by omega)
        rw [if_neg (by omega)]
      · rename_i q
        exact cap_num l _ (by omega)
    · have e : spanL digI (c :: l) = 0 := by rw [spanL, if_neg d]
      rw [e, List.take_zero, numU, capS, if_neg d, if_pos h]
theorem cap_step (s : ByteArray) (k n : Nat) (h : k < s.size) : (digI (s[k].toNat : Int) = true → capS (s.data.toList.drop k) n = capS (s.data.toList.drop (k + 1)) (if n ≤ 2147483648 then n * 10 + s[k].toNat - 48 else n)) ∧ (digI (s[k].toNat : Int) = false → capS (s.data.toList.drop k) n = n) := by
  have d := drop_next s k h
  exact ⟨fun g => by rw [d, capS, if_pos g], fun g => by rw [d, capS, if_neg (by rw [g]; decide)]⟩
theorem dig_drop (s : ByteArray) (k : Nat) (h : k < s.size) : (digI (s[k].toNat : Int) = true → spanL digI (s.data.toList.drop k) = spanL digI (s.data.toList.drop (k + 1)) + 1) ∧ (digI (s[k].toNat : Int) = false → spanL digI (s.data.toList.drop k) = 0) := by
  have d := drop_next s k h
  exact ⟨fun g => by rw [d, spanL, if_pos g], fun g => by rw [d, spanL, if_neg (by rw [g]; decide)]⟩
/-- What the document's number tells, of the digits from a on: m of them, of the value n. -/
def xnumV (s : ByteArray) (a m n : Nat) (z : Bool) : Value :=
  if (z && decide (1 < m)) || decide (2147483647 < n) then .tuple #[tokX 0 ⟨#[]⟩ 0 0, .int .i64 a, .int .i64 91]
  else .tuple #[tokX 2 (s.extract a (a + m)) n a, .int .i64 ((a + m : Nat)), .int .i64 0]
set_option maxRecDepth 100000 in
set_option maxHeartbeats 2000000 in
theorem xnumber_raw (s : ByteArray) (a : Nat) (w : World) (ha : a < s.size) (hs : s.size ≤ 140737488355328) :
    Calls Tryd.prog 25 #[.string s, .int .i64 a] w fun e w' => e = .returned (xnumV s a (spanL digI (s.data.toList.drop a)) (capS (s.data.toList.drop a) 0) ((s[a].toNat : Int) == 48)) ∧ Below w.heap.size w w' := by
  obtain ⟨zz, hzz⟩ : ∃ zz, zz = ((s[a].toNat : Int) == 48) := ⟨_, rfl⟩
  rw [← hzz]
  have HZ : Hid (zz = ((s[a].toNat : Int) == 48)) := hzz
  clear hzz
  have T0 := hideR (x_start w)
  have HD := hideR (fun (k : Nat) (h : k < s.size) w => xdigit_any (s[k].toNat : Int) w)
  have CS := hideR (fun (k n : Nat) (h : k < s.size) => cap_step s k n h)
  have DD := hideR (fun (k : Nat) (h : k < s.size) => dig_drop s k h)
  have LE : Hid (∀ k, spanL digI (s.data.toList.drop k) ≤ s.size - k) := fun k => by have := span_le digI (s.data.toList.drop k); rw [List.length_drop, len_of] at this; exact this
  have CE : Hid (∀ n, capS (s.data.toList.drop s.size) n = n) := fun n => by rw [← len_of s, List.drop_length]; rfl
  have a0 : (0 : Int) ≤ (a : Int) := by omega
  have a1 : (a : Int) < (s.size : Int) := by omega
  have I0 : Hid (a + spanL digI (s.data.toList.drop a) = a + spanL digI (s.data.toList.drop a)) := rfl
  have I1 : Hid (capS (s.data.toList.drop a) 0 = capS (s.data.toList.drop a) 0) := rfl
  have mle := LE.out a
  generalize hm : spanL digI (s.data.toList.drop a) = m at *
  generalize hc : capS (s.data.toList.drop a) 0 = c at *
  replace I0 : Hid (a + spanL digI (s.data.toList.drop a) = a + m) := by show _ = _; rw [hm]
  replace I1 : Hid (capS (s.data.toList.drop a) 0 = c) := hc
  clear hm hc
  go_enter Tryd.func25, Tryd.ntmps25
  go_wp2_with fail
  have hz : Hid (w.heap.size < (w.alloc (.cells #[.int .i64 0, .string ⟨#[]⟩, .int .i64 0, .int .i64 0] 29)).heap.size) := by simp [Hid]
  generalize w.alloc (.cells #[.int .i64 0, .string ⟨#[]⟩, .int .i64 0, .int .i64 0] 29) = W at *
  go_loopw [7, 8] (fun i n wr => ∃ (k u : Nat), a ≤ k ∧ k ≤ s.size ∧ i = .int .i64 k ∧ n = .int .i64 u ∧ u ≤ 21474836500 ∧ wr = W ∧ Hid (k + spanL digI (s.data.toList.drop k) = a + m) ∧ Hid (capS (s.data.toList.drop k) u = c)) (fun i _ _ => s.size - (intOf i).toNat)
  case atStart => exact ⟨a, 0, Nat.le_refl _, by omega, rfl, rfl, by omega, rfl, I0, I1⟩
  case round =>
    obtain ⟨k, u, hak, hk, rfl, rfl, hu, rfl, E, F⟩ := hrel
    clear I0 I1
    by_cases ck : k < s.size
    · have k0 : (0 : Int) ≤ (k : Int) := by omega
      have k1 : (k : Int) < (s.size : Int) := by omega
      have HC := hideR (HD.out k ck)
      have X := CS.out k u ck
      have Y := DD.out k ck
      clear HD CS DD
      cases d : digI (s[k].toNat : Int)
      · have e1 : Hid (k = a + m) := by show _ = _; have := E.out; rw [Y.2 d] at this; omega
        have e2 : Hid (u = c) := by show _ = _; have := F.out; rw [X.2 d] at this; exact this
        rw [d] at HC
        clear X Y d E F
        clear LE CE
        have e3 := e2.out
        subst e3
        have mk : Hid (a + m = k) := e1.out.symm
        have kk : (a : Int) ≤ (k : Int) := by omega
        have kl : (k : Int) ≤ (s.size : Int) := by omega
        by_cases z : ((s[a].toNat : Int) == 48) = true
        · by_cases g : 1 < m
          · have g' : (a : Int) + 1 < (k : Int) := by have := mk.out; omega
            have R : Hid (xnumV s a m u zz = .tuple #[tokX 0 ⟨#[]⟩ 0 0, .int .i64 a, .int .i64 91]) := by show _ = _; unfold xnumV; rw [HZ.out, z, decide_eq_true g]; rfl
            obtain ⟨x0, x1, x2, x3, f0, f1, f2, f3, B0⟩ := T0.out
            clear T0 e1 e2 mk mle hz
            go_wp2_with fail
            refine (HC.out _).mono ?_
            rintro e w1 ⟨rfl, rfl⟩
            go_wp2_with fail
            refine bodyPost_ret (v := .tuple #[tokX 0 ⟨#[]⟩ 0 0, .int .i64 a, .int .i64 91]) (by simp [results, Tryd.results25, go_sem, *]) rfl ⟨by rw [R.out], ?_⟩
            first | exact B0 | exact set4 B0 (Nat.le_refl _) _ _ _ _
          · have g' : ¬ (a : Int) + 1 < (k : Int) := by have := mk.out; omega
            by_cases b : 2147483647 < u
            · have b' : (2147483647 : Int) < (u : Int) := by omega
              have R : Hid (xnumV s a m u zz = .tuple #[tokX 0 ⟨#[]⟩ 0 0, .int .i64 a, .int .i64 91]) := by show _ = _; unfold xnumV; rw [decide_eq_true b, Bool.or_true, if_pos rfl]
              obtain ⟨x0, x1, x2, x3, f0, f1, f2, f3, B0⟩ := T0.out
              clear T0 e1 e2 mk mle hz
              go_wp2_with fail
              refine (HC.out _).mono ?_
              rintro e w1 ⟨rfl, rfl⟩
              go_wp2_with fail
              refine bodyPost_ret (v := .tuple #[tokX 0 ⟨#[]⟩ 0 0, .int .i64 a, .int .i64 91]) (by simp [results, Tryd.results25, go_sem, *]) rfl ⟨by rw [R.out], ?_⟩
              first | exact B0 | exact set4 B0 (Nat.le_refl _) _ _ _ _
            · have b' : ¬ (2147483647 : Int) < (u : Int) := by omega
              have R : Hid (xnumV s a m u zz = .tuple #[tokX 2 (s.extract a k) u a, .int .i64 k, .int .i64 0]) := by show _ = _; unfold xnumV; rw [HZ.out, z, decide_eq_false g, decide_eq_false b, mk.out]; rfl
              obtain ⟨x0, x1, x2, x3, f0, f1, f2, f3, B0⟩ := T0.out
              clear T0 e1 e2 mk mle hz
              go_wp2_with fail
              refine (HC.out _).mono ?_
              rintro e w1 ⟨rfl, rfl⟩
              go_wp2_with fail
              refine bodyPost_ret (v := .tuple #[tokX 2 (s.extract a k) u a, .int .i64 k, .int .i64 0]) (by simp [results, Tryd.results25, go_sem, *]) rfl ⟨by rw [R.out], ?_⟩
              first | exact B0 | exact set4 B0 (Nat.le_refl _) _ _ _ _
        · have z' : ((s[a].toNat : Int) == 48) = false := by simpa using z
          clear z
          by_cases b : 2147483647 < u
          · have b' : (2147483647 : Int) < (u : Int) := by omega
            have R : Hid (xnumV s a m u zz = .tuple #[tokX 0 ⟨#[]⟩ 0 0, .int .i64 a, .int .i64 91]) := by show _ = _; unfold xnumV; rw [decide_eq_true b, Bool.or_true, if_pos rfl]
            obtain ⟨x0, x1, x2, x3, f0, f1, f2, f3, B0⟩ := T0.out
            clear T0 e1 e2 mk mle hz
            go_wp2_with fail
            refine (HC.out _).mono ?_
            rintro e w1 ⟨rfl, rfl⟩
            go_wp2_with fail
            refine bodyPost_ret (v := .tuple #[tokX 0 ⟨#[]⟩ 0 0, .int .i64 a, .int .i64 91]) (by simp [results, Tryd.results25, go_sem, *]) rfl ⟨by rw [R.out], ?_⟩
            first | exact B0 | exact set4 B0 (Nat.le_refl _) _ _ _ _
          · have b' : ¬ (2147483647 : Int) < (u : Int) := by omega
            have R : Hid (xnumV s a m u zz = .tuple #[tokX 2 (s.extract a k) u a, .int .i64 k, .int .i64 0]) := by show _ = _; unfold xnumV; rw [HZ.out, z', decide_eq_false b, mk.out]; rfl
            obtain ⟨x0, x1, x2, x3, f0, f1, f2, f3, B0⟩ := T0.out
            clear T0 e1 e2 mk mle hz
            go_wp2_with fail
            refine (HC.out _).mono ?_
            rintro e w1 ⟨rfl, rfl⟩
            go_wp2_with fail
            refine bodyPost_ret (v := .tuple #[tokX 2 (s.extract a k) u a, .int .i64 k, .int .i64 0]) (by simp [results, Tryd.results25, go_sem, *]) rfl ⟨by rw [R.out], ?_⟩
            first | exact B0 | exact set4 B0 (Nat.le_refl _) _ _ _ _
      · have e1 : Hid ((k + 1) + spanL digI (s.data.toList.drop (k + 1)) = a + m) := by show _ = _; have := E.out; rw [Y.1 d] at this; omega
        obtain ⟨d0, d1⟩ := digI_bd d
        have e2 := hideR (X.1 d)
        rw [d] at HC
        clear X Y d E
        by_cases q : u ≤ 2147483648
        · have e3 : Hid (capS (s.data.toList.drop (k + 1)) (u * 10 + s[k].toNat - 48) = c) := by show _ = _; have := F.out; rw [e2.out, if_pos q] at this; exact this
          have q' : (u : Int) ≤ 2147483648 := by omega
          clear e2 F
          go_wp2_with fail
          refine (HC.out _).mono ?_
          rintro e w1 ⟨rfl, rfl⟩
          go_wp2_with fail
          go_roundw
          case rel => exact ⟨k + 1, u * 10 + s[k].toNat - 48, by omega, by omega, by go_num, by congr 1; omega, by omega, by first | rfl | trivial, e1, e3⟩
          case measure => simp [intOf]; omega
        · have e3 : Hid (capS (s.data.toList.drop (k + 1)) u = c) := by show _ = _; have := F.out; rw [e2.out, if_neg q] at this; exact this
          have q' : ¬ (u : Int) ≤ 2147483648 := by omega
          clear e2 F
          go_wp2_with fail
          refine (HC.out _).mono ?_
          rintro e w1 ⟨rfl, rfl⟩
          go_wp2_with fail
          go_roundw
          case rel => exact ⟨k + 1, u, by omega, by omega, by go_num, rfl, by omega, by first | rfl | trivial, e1, e3⟩
          case measure => simp [intOf]; omega
    · obtain rfl : k = s.size := by omega
      have e1 : Hid (s.size = a + m) := by show _ = _; have := E.out; have := LE.out s.size; omega
      have e2 : Hid (u = c) := by show _ = _; have := F.out; rw [CE.out] at this; exact this
      have k1 : ¬ ((s.size : Int) < (s.size : Int)) := by omega
      clear HD CS DD E F LE CE
      have e3 := e2.out
      subst e3
      have mk : Hid (a + m = s.size) := e1.out.symm
      have kk : (a : Int) ≤ (s.size : Int) := by omega
      have kl : (s.size : Int) ≤ (s.size : Int) := by omega
      by_cases z : ((s[a].toNat : Int) == 48) = true
      · by_cases g : 1 < m
        · have g' : (a : Int) + 1 < (s.size : Int) := by have := mk.out; omega
          have R : Hid (xnumV s a m u zz = .tuple #[tokX 0 ⟨#[]⟩ 0 0, .int .i64 a, .int .i64 91]) := by show _ = _; unfold xnumV; rw [HZ.out, z, decide_eq_true g]; rfl
          obtain ⟨x0, x1, x2, x3, f0, f1, f2, f3, B0⟩ := T0.out
          clear T0 e1 e2 mk mle hz
          go_wp2_with fail
          refine bodyPost_ret (v := .tuple #[tokX 0 ⟨#[]⟩ 0 0, .int .i64 a, .int .i64 91]) (by simp [results, Tryd.results25, go_sem, *]) rfl ⟨by rw [R.out], ?_⟩
          first | exact B0 | exact set4 B0 (Nat.le_refl _) _ _ _ _
        · have g' : ¬ (a : Int) + 1 < (s.size : Int) := by have := mk.out; omega
          by_cases b : 2147483647 < u
          · have b' : (2147483647 : Int) < (u : Int) := by omega
            have R : Hid (xnumV s a m u zz = .tuple #[tokX 0 ⟨#[]⟩ 0 0, .int .i64 a, .int .i64 91]) := by show _ = _; unfold xnumV; rw [decide_eq_true b, Bool.or_true, if_pos rfl]
            obtain ⟨x0, x1, x2, x3, f0, f1, f2, f3, B0⟩ := T0.out
            clear T0 e1 e2 mk mle hz
            go_wp2_with fail
            refine bodyPost_ret (v := .tuple #[tokX 0 ⟨#[]⟩ 0 0, .int .i64 a, .int .i64 91]) (by simp [results, Tryd.results25, go_sem, *]) rfl ⟨by rw [R.out], ?_⟩
            first | exact B0 | exact set4 B0 (Nat.le_refl _) _ _ _ _
          · have b' : ¬ (2147483647 : Int) < (u : Int) := by omega
            have R : Hid (xnumV s a m u zz = .tuple #[tokX 2 (s.extract a s.size) u a, .int .i64 s.size, .int .i64 0]) := by show _ = _; unfold xnumV; rw [HZ.out, z, decide_eq_false g, decide_eq_false b, mk.out]; rfl
            obtain ⟨x0, x1, x2, x3, f0, f1, f2, f3, B0⟩ := T0.out
            clear T0 e1 e2 mk mle hz
            go_wp2_with fail
            refine bodyPost_ret (v := .tuple #[tokX 2 (s.extract a s.size) u a, .int .i64 s.size, .int .i64 0]) (by simp [results, Tryd.results25, go_sem, *]) rfl ⟨by rw [R.out], ?_⟩
            first | exact B0 | exact set4 B0 (Nat.le_refl _) _ _ _ _
      · have z' : ((s[a].toNat : Int) == 48) = false := by simpa using z
        clear z
        by_cases b : 2147483647 < u
        · have b' : (2147483647 : Int) < (u : Int) := by omega
          have R : Hid (xnumV s a m u zz = .tuple #[tokX 0 ⟨#[]⟩ 0 0, .int .i64 a, .int .i64 91]) := by show _ = _; unfold xnumV; rw [decide_eq_true b, Bool.or_true, if_pos rfl]
          obtain ⟨x0, x1, x2, x3, f0, f1, f2, f3, B0⟩ := T0.out
          clear T0 e1 e2 mk mle hz
          go_wp2_with fail
          refine bodyPost_ret (v := .tuple #[tokX 0 ⟨#[]⟩ 0 0, .int .i64 a, .int .i64 91]) (by simp [results, Tryd.results25, go_sem, *]) rfl ⟨by rw [R.out], ?_⟩
          first | exact B0 | exact set4 B0 (Nat.le_refl _) _ _ _ _
        · have b' : ¬ (2147483647 : Int) < (u : Int) := by omega
          have R : Hid (xnumV s a m u zz = .tuple #[tokX 2 (s.extract a s.size) u a, .int .i64 s.size, .int .i64 0]) := by show _ = _; unfold xnumV; rw [HZ.out, z', decide_eq_false b, mk.out]; rfl
          obtain ⟨x0, x1, x2, x3, f0, f1, f2, f3, B0⟩ := T0.out
          clear T0 e1 e2 mk mle hz
          go_wp2_with fail
          refine bodyPost_ret (v := .tuple #[tokX 2 (s.extract a s.size) u a, .int .i64 s.size, .int .i64 0]) (by simp [results, Tryd.results25, go_sem, *]) rfl ⟨by rw [R.out], ?_⟩
          first | exact B0 | exact set4 B0 (Nat.le_refl _) _ _ _ _
end Go.Proofs.YtabjadbpllhgkaaDoor
