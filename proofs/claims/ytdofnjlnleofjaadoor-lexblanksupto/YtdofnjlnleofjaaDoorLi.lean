/-
  lex.number of all digits, and lex.first of all texts.
-/
import Derived.Test.YtdofnjlnleofjaaDoorLh
namespace Go.Proofs.YtdofnjlnleofjaaDoor
open Go.RowKit
set_option linter.unusedVariables false
set_option maxRecDepth 100000 in
set_option maxHeartbeats 2000000 in
theorem number_b (s : ByteArray) (w : World) (hp : 0 < s.size) (hs : s.size ≤ 140737488355328) (hd : ∀ k (h : k < s.size), digI (s[k].toNat : Int) = true) (h0 : ((s[0].toNat : Int) == 48) = true) (h1 : ¬ 1 < s.size) :
    Calls Tryd.prog 18 #[.string s] w fun e w' => e = .returned (numW s (numU s.data.toList 0)) ∧ Below w.heap.size w w' := by
  have hne : ¬ s = ByteArray.empty := by rintro rfl; simp at hp
  have h3 : (0 : Int) < (s.size : Int) := by omega
  have h4 : ¬ (1 : Int) < (s.size : Int) := by omega
  have HD := hideR hd
  have DN : Hid (∀ k (h : k < s.size), s.data.toList.drop k = s[k] :: s.data.toList.drop (k + 1)) := fun k h => drop_next s k h
  have DE : Hid (s.data.toList.drop s.size = []) := by show _ = _; rw [← len_of s]; exact List.drop_length
  have T0 := hideR (tok_start w)
  clear hd
  go_enter Tryd.func18, Tryd.ntmps18
  go_wp2_with fail
  generalize w.alloc (.cells #[.int .u8 0, .string ⟨#[]⟩, .int .i64 0, .int .i64 0] 30) = W at *
  go_loopw [4, 18] (fun n i wr => ∃ (k u : Nat), k ≤ s.size ∧ i = .int .i64 k ∧ n = .int .i64 u ∧ u ≤ 2147483647 ∧ Hid (TokAt wr w) ∧ Hid (numU s.data.toList 0 = numU (s.data.toList.drop k) u)) (fun _ i _ => s.size - (intOf i).toNat)
  case atStart => exact ⟨0, 0, by omega, rfl, rfl, by omega, T0, rfl⟩
  case round =>
    obtain ⟨k, u, hk, rfl, rfl, hu, TA, E⟩ := hrel
    clear T0
    by_cases ck : k < s.size
    · have k0 : (0 : Int) ≤ (k : Int) := by omega
      have k1 : (k : Int) < (s.size : Int) := by omega
      obtain ⟨d0, d1⟩ := digI_bd (HD.out k ck)
      have NX : Hid (numU s.data.toList 0 = if (2147483647 - (s[k].toNat - 48)) / 10 < u then none else numU (s.data.toList.drop (k + 1)) (10 * u + (s[k].toNat - 48))) := by
        show _ = _
        rw [E.out, DN.out k ck, numU]
      have e1 : IntKind.u8.wrap ((s[k].toNat : Int) - 48) = ((s[k].toNat - 48 : Nat) : Int) := by simp only [IntKind.wrap_u8]; omega
      have dd := hideR (show s[k].toNat - 48 ≤ 9 by omega)
      clear E
      generalize s[k].toNat - 48 = D at *
      have e2 : IntKind.i64.wrap (D : Int) = (D : Int) := by rw [IntKind.wrap_i64]; have := dd.out; omega
      have e3 : IntKind.i64.wrap (2147483647 - (D : Int)) = ((2147483647 - D : Nat) : Int) := by rw [IntKind.wrap_i64]; have := dd.out; omega
      have e4 : IntKind.i64.wrap (((2147483647 - D : Nat) : Int).tdiv 10) = (((2147483647 - D) / 10 : Nat) : Int) := by
        have : ((2147483647 - D : Nat) : Int).tdiv 10 = (((2147483647 - D) / 10 : Nat) : Int) := by rw [Int.tdiv_eq_ediv_of_nonneg (by omega)]; omega
        rw [this, IntKind.wrap_i64]
        omega
      have e5 : IntKind.i64.wrap (10 * (u : Int)) = 10 * (u : Int) := by rw [IntKind.wrap_i64]; omega
      by_cases c : (2147483647 - D) / 10 < u
      · have R : Hid (numU s.data.toList 0 = none) := by show _ = _; rw [NX.out, if_pos c]
        have c' : decide ((((2147483647 - D) / 10 : Nat) : Int) < (u : Int)) = true := by simp; omega
        obtain ⟨a0, a1, a2, a3, f0, f1, f2, f3, B0⟩ := TA.out
        have c2 : decide (((2147483647 - D : Nat) : Int) / 10 < (u : Int)) = true := by simp; omega
        clear NX TA c d0 d1
        go_wp2_with fail
        refine bodyPost_ret (v := .tuple #[tokV 0 ⟨#[]⟩ 0 0, .int .i64 91]) (by simp [results, Tryd.results18, go_sem, *]) rfl ⟨by rw [R.out]; rfl, ?_⟩
        first | exact B0 | exact set4 B0 (Nat.le_refl _) _ _ _ _
      · have R : Hid (numU s.data.toList 0 = numU (s.data.toList.drop (k + 1)) (10 * u + D)) := by show _ = _; rw [NX.out, if_neg c]
        have c' : decide ((((2147483647 - D) / 10 : Nat) : Int) < (u : Int)) = false := by simp; omega
        have e6 : IntKind.i64.wrap (10 * (u : Int) + (D : Int)) = 10 * (u : Int) + (D : Int) := by rw [IntKind.wrap_i64]; have := dd.out; omega
        have c3 : ¬ (((2147483647 - D : Nat) : Int) / 10 < (u : Int)) := by omega
        have U := hideR (show 10 * u + D ≤ 2147483647 by have := dd.out; omega)
        clear NX c d0 d1 c' e4
        go_wp2_with fail
        go_roundw
        case rel => exact ⟨k + 1, 10 * u + D, by omega, by go_num, by first | (congr 1; omega) | go_num, U.out, TA, R⟩
        case measure => simp [intOf]; omega
    · obtain rfl : k = s.size := by omega
      have R : Hid (numU s.data.toList 0 = some u) := by show _ = _; rw [E.out, DE.out]; rfl
      have k1 : decide ((s.size : Int) < (s.size : Int)) = false := by simp
      obtain ⟨a0, a1, a2, a3, f0, f1, f2, f3, B0⟩ := TA.out
      clear E TA
      go_wp2_with fail
      refine bodyPost_ret (v := .tuple #[tokV 2 s u 0, .int .i64 0]) (by simp [results, Tryd.results18, go_sem, *]) rfl ⟨by rw [R.out]; rfl, ?_⟩
      exact set4 B0 (Nat.le_refl _) _ _ _ _
theorem whole (s : ByteArray) (k : Nat) (h : s.size ≤ k) : s.extract 0 k = s := by
  apply ByteArray.ext
  simp only [ByteArray.data_extract]
  exact Array.extract_eq_self_of_le (by simpa using h)
theorem head_of (s : ByteArray) (hp : 0 < s.size) : s.data.toList = s[0] :: s.data.toList.drop 1 := by
  have a := drop_next s 0 hp
  rw [List.drop_zero] at a
  exact a
theorem numV (s : ByteArray) : ∀ o : Option Nat, numW s o = firstV s (numT s.data.toList.length o)
  | none => by unfold numW numT firstV; rw [cut_none]
  | some n => by unfold numW numT firstV; rw [whole s _ (by rw [len_of]; exact Nat.le_refl _)]
theorem number_any (s : ByteArray) (w : World) (hp : 0 < s.size) (hs : s.size ≤ 140737488355328) (hd : ∀ k (h : k < s.size), digI (s[k].toNat : Int) = true) :
    Calls Tryd.prog 18 #[.string s] w fun e w' => e = .returned (firstV s (numM s.data.toList)) ∧ Below w.heap.size w w' := by
  have hh : s.data.toList.head? = some s[0] := by rw [head_of s hp]; rfl
  by_cases h0 : ((s[0].toNat : Int) == 48) = true
  · by_cases h1 : 1 < s.size
    · have e : numM s.data.toList = (91, 0, 0, 0) := by
        unfold numM
        rw [if_pos ⟨by rw [hh]; simp [h0], by rw [len_of]; exact h1⟩]
      rw [e]
      refine (number_nought s w h1 hs h0).mono ?_
      rintro e w1 ⟨rfl, hb⟩
      exact ⟨by unfold firstV; rw [cut_none], hb⟩
    · have e : numM s.data.toList = numT s.data.toList.length (numU s.data.toList 0) := by
        unfold numM
        rw [if_neg (by rintro ⟨-, q⟩; rw [len_of] at q; exact h1 q)]
      rw [e, ← numV]
      exact number_b s w hp hs hd h0 h1
  · have h0' : ((s[0].toNat : Int) == 48) = false := by simpa using h0
    have e : numM s.data.toList = numT s.data.toList.length (numU s.data.toList 0) := by
      unfold numM
      rw [if_neg (by rintro ⟨q, -⟩; rw [hh] at q; simp at q; simp [q] at h0)]
    rw [e, ← numV]
    exact number_a s w hp hs hd h0'
theorem span_all (f : Int → Bool) : ∀ (l : List UInt8) (k : Nat) (h : k < l.length), k < spanL f l → f (l[k].toNat : Int) = true
  | [], k, h, _ => by simp at h
  | c :: l, k, h, g => by
    unfold spanL at g
    split at g
    · rename_i q
      cases k with
      | zero => exact q
      | succ k => exact span_all f l k (by simpa using h) (by omega)
    · omega
theorem take_list (s : ByteArray) (k : Nat) : (s.extract 0 k).data.toList = s.data.toList.take k := by
  simp
theorem digits_of (s : ByteArray) (k : Nat) (h : k < (s.extract 0 (spanL digI s.data.toList)).size) : digI ((s.extract 0 (spanL digI s.data.toList))[k].toNat : Int) = true := by
  have LE : spanL digI s.data.toList ≤ s.size := by have := span_le digI s.data.toList; rw [len_of] at this; exact this
  have hk : k < spanL digI s.data.toList := by
    simp at h
    omega
  have := span_all digI s.data.toList k (by rw [len_of]; omega) hk
  rw [ByteArray.getElem_extract]
  simp only [Nat.zero_add]
  exact this
theorem firstV_cut (s : ByteArray) (k : Nat) (hk : k ≤ s.size) : firstV (s.extract 0 k) (numM ((s.extract 0 k).data.toList)) = firstV s (numM (s.data.toList.take k)) := by
  rw [take_list]
  have hl : (s.data.toList.take k).length = k := by rw [List.length_take, len_of]; omega
  have c : numM (s.data.toList.take k) = (91, 0, 0, 0) ∨ ∃ n : Int, numM (s.data.toList.take k) = (0, 2, k, n) := by
    unfold numM
    split
    · exact .inl rfl
    · cases numU (s.data.toList.take k) 0 with
      | none => exact .inl rfl
      | some n => exact .inr ⟨n, by unfold numT; rw [hl]⟩
  rcases c with e | ⟨n, e⟩
  · rw [e]; unfold firstV; rw [cut_none, cut_none]
  · rw [e]
    unfold firstV
    have : (s.extract 0 k).extract 0 k = s.extract 0 k := whole _ _ (by simp; omega)
    simp only [this]
theorem span_pos {s : ByteArray} (hp : 0 < s.size) (hd : digI (s[0].toNat : Int) = true) : 0 < spanL digI s.data.toList := by
  rw [head_of s hp, spanL, if_pos hd]
  omega
set_option maxRecDepth 100000 in
set_option maxHeartbeats 1000000 in
theorem first_number (s : ByteArray) (w : World) (hp : 0 < s.size) (hs : s.size ≤ 140737488355328) (hl : lttI (s[0].toNat : Int) = false) (hd : digI (s[0].toNat : Int) = true) :
    Calls Tryd.prog 15 #[.string s] w fun e w' => e = .returned (firstV s (numM (s.data.toList.take (spanL digI s.data.toList)))) ∧ Below w.heap.size w w' := by
  have hne := list_ne s hp
  have i0 : (0 : Int) < (s.size : Int) := by omega
  have T0 := hideR (tok_start w)
  have H1 : Hid (∀ w, Calls Tryd.prog 10 #[.int .u8 (s[0].toNat : Int)] w fun e w' => e = .returned (.bool false) ∧ w' = w) := hideR fun w => by have := isLetter_any (s[0].toNat : Int) w; rw [hl] at this; exact this
  have H2 : Hid (∀ w, Calls Tryd.prog 16 #[.int .u8 (s[0].toNat : Int)] w fun e w' => e = .returned (.bool true) ∧ w' = w) := hideR fun w => by have := isDigit_any (s[0].toNat : Int) w; rw [hd] at this; exact this
  have H3 : Hid (∀ w, _) := hideR fun w => span_digits s w hs
  have LE : spanL digI s.data.toList ≤ s.size := by have := span_le digI s.data.toList; rw [len_of] at this; exact this
  have H4 : Hid (∀ w, Calls Tryd.prog 18 #[.string (s.extract 0 (spanL digI s.data.toList))] w fun e w' => e = .returned (firstV s (numM (s.data.toList.take (spanL digI s.data.toList)))) ∧ Below w.heap.size w w') := hideR fun w => by
    have := number_any (s.extract 0 (spanL digI s.data.toList)) w (by have := span_pos hp hd; simp; omega) (by simp; omega) (digits_of s)
    rw [firstV_cut s _ LE] at this
    exact this
  generalize numM (s.data.toList.take (spanL digI s.data.toList)) = r at *
  generalize spanL digI s.data.toList = m at *
  have l1 : (0 : Int) ≤ (m : Int) := by omega
  have l2 : (m : Int) ≤ (s.size : Int) := by omega
  clear hl hd
  unfold firstV at *
  go_enter Tryd.func15, Tryd.ntmps15
  go_wp2_with fail
  refine (H1.out _).mono ?_
  rintro e w1 ⟨rfl, rfl⟩
  go_wp2_with fail
  refine (H2.out _).mono ?_
  rintro e w1 ⟨rfl, rfl⟩
  go_wp2_with fail
  refine (H3.out _).mono ?_
  rintro e w1 ⟨rfl, rfl⟩
  go_wp2_with fail
  have hz : w.heap.size < (w.alloc (.cells #[.int .u8 0, .string ⟨#[]⟩, .int .i64 0, .int .i64 0] 30)).heap.size := by simp
  generalize w.alloc (.cells #[.int .u8 0, .string ⟨#[]⟩, .int .i64 0, .int .i64 0] 30) = W at *
  refine (H4.out _).mono ?_
  rintro e w1 ⟨rfl, hb⟩
  obtain ⟨a0, a1, a2, a3, f0, f1, f2, f3, B0⟩ := tok_later T0.out hb hz
  clear hb hz T0
  go_wp2_with fail
  refine bodyPost_ret (v := .tuple #[tokV r.2.1 (s.extract 0 r.2.2.1) r.2.2.2 0, .int .i64 r.1]) (by simp [results, Tryd.results15, go_sem, *]) rfl ⟨rfl, ?_⟩
  first | exact B0 | exact set4 B0 (Nat.le_refl _) _ _ _ _
theorem first_any (s : ByteArray) (w : World) (hs : s.size ≤ 140737488355328) : Calls Tryd.prog 15 #[.string s] w fun e w' => e = .returned (firstV s (firstM s.data.toList)) ∧ Below w.heap.size w w' := by
  by_cases hp : 0 < s.size
  · have hh := head_of s hp
    cases a : lttI (s[0].toNat : Int)
    · cases b : digI (s[0].toNat : Int)
      · cases c : inL lowA s[0]
        · cases d : inL lowB s[0]
          · cases f : inL lowC s[0]
            · have e : firstM s.data.toList = (90, 0, 0, 0) := by rw [hh, firstM, a, b, c, d, f]; rfl
              rw [e]; unfold firstV; rw [cut_none]
              exact first_wrong s w hp hs a b c d f
            · cases q : pairL s.data.toList
              · have e : firstM s.data.toList = (90, 0, 0, 0) := by rw [hh] at q ⊢; rw [firstM, a, b, c, d, f, q]; rfl
                rw [e]; unfold firstV; rw [cut_none]
                exact first_wrongC s w hp hs a b c d f q
              · have e : firstM s.data.toList = (0, 3, 2, 0) := by rw [hh] at q ⊢; rw [firstM, a, b, c, d, f, q]; rfl
                rw [e]
                exact first_pairC s w hp hs a b c d f q
          · have e : firstM s.data.toList = (0, 3, 1, 0) := by rw [hh, firstM, a, b, c, d]; rfl
            rw [e]
            exact first_oneB s w hp hs a b c d
        · cases q : pairL s.data.toList
          · have e : firstM s.data.toList = (0, 3, 1, 0) := by rw [hh] at q ⊢; rw [firstM, a, b, c, q]; rfl
            rw [e]
            exact first_oneA s w hp hs a b c q
          · have e : firstM s.data.toList = (0, 3, 2, 0) := by rw [hh] at q ⊢; rw [firstM, a, b, c, q]; rfl
            rw [e]
            exact first_pairA s w hp hs a b c q
      · have e : firstM s.data.toList = numM (s.data.toList.take (spanL digI s.data.toList)) := by rw [hh, firstM, a, b]; rfl
        rw [e]
        exact first_number s w hp hs a b
    · have e : firstM s.data.toList = (0, 1, spanL wrdI s.data.toList, 0) := by rw [hh, firstM, a]; rfl
      rw [e]
      exact first_word s w hp hs a
  · have e : s = ⟨#[]⟩ := by
      have : s.size = 0 := by omega
      apply ByteArray.ext
      exact Array.eq_empty_of_size_eq_zero this
    subst e
    exact first_none w
end Go.Proofs.YtdofnjlnleofjaaDoor
