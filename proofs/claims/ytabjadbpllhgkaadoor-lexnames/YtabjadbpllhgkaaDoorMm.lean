/-
  The document's IsName.
-/
import Derived.Test.YtabjadbpllhgkaaDoorMd
import Derived.Test.YtabjadbpllhgkaaDoorMi
namespace Go.Proofs.YtabjadbpllhgkaaDoor
open Go.RowKit
set_option linter.unusedVariables false
theorem letter_skip (c : UInt8) (l : List UInt8) (h : lttI (c.toNat : Int) = true) : skipM false (c :: l) = 0 := by
  have hb : blankI (c.toNat : Int) = false := by
    unfold lttI at h
    unfold blankI
    simp at h ⊢
    omega
  have hr : ((c.toNat : Int) == 35) = false := by
    unfold lttI at h
    simp at h ⊢
    omega
  rw [skipM, if_neg (by rw [hb]; decide), if_neg (by rw [hr]; decide)]
theorem kind_word : ∀ l : List UInt8, (firstM l).2.1 = 1 → ∃ c r, l = c :: r ∧ lttI (c.toNat : Int) = true
  | [], h => by simp [firstM] at h
  | c :: l, h => by
    by_cases q : lttI (c.toNat : Int) = true
    · exact ⟨c, l, rfl, q⟩
    · exfalso
      rw [firstM, if_neg q] at h
      split at h
      · generalize List.take (spanL digI (c :: l)) (c :: l) = d at h
        unfold numM at h
        split at h
        · simp at h
        · cases e : numU d 0 with
          | none => rw [e] at h; simp [numT] at h
          | some n => rw [e] at h; simp [numT] at h
      · split at h
        · split at h <;> simp at h
        · split at h
          · simp at h
          · split at h
            · split at h <;> simp at h
            · simp at h
/-- What the document's IsName asks of the token. -/
def wordB (l : List UInt8) : Bool := ((tokL l 0).1 == 0) && ((tokL l 0).2.1 == 1) && ((begL l 0 + (tokL l 0).2.2.1 == l.length)) && (begL l 0 == 0) && decide (l.length ≤ 16)
theorem word_is (l : List UInt8) : wordB l = (!l.isEmpty && decide (l.length ≤ 16) && lttI ((l.head?.map fun c => (c.toNat : Int)).getD 0) && (spanL wrdI l == l.length)) := by
  unfold wordB
  by_cases q : ∃ c r, l = c :: r ∧ lttI (c.toNat : Int) = true
  · obtain ⟨c, r, rfl, h⟩ := q
    have b : begL (c :: r) 0 = 0 := by unfold begL; rw [List.drop_zero, letter_skip c r h]
    have t : tokL (c :: r) 0 = (0, 1, spanL wrdI (c :: r), 0) := by unfold tokL; rw [b, List.drop_zero, firstM, if_pos h]
    rw [t, b]
    simp only [List.isEmpty_cons, List.head?_cons, Option.map_some, Option.getD_some, h]
    simp [Bool.and_comm]
  · have a : lttI ((l.head?.map fun c => (c.toNat : Int)).getD 0) = false := by
      cases l with
      | nil => rfl
      | cons c r =>
        cases e : lttI (c.toNat : Int)
        · exact e
        · exact absurd ⟨c, r, rfl, e⟩ q
    rw [a, Bool.and_false, Bool.false_and]
    by_cases b : begL l 0 = 0
    · have : ¬ (tokL l 0).2.1 = 1 := by
        intro h
        unfold tokL at h
        rw [b, List.drop_zero] at h
        exact q (kind_word l h)
      have e : ((tokL l 0).2.1 == 1) = false := by simpa using this
      rw [e]
      simp
    · have e : (begL l 0 == 0) = false := by simpa using b
      rw [e]
      simp
def keep15 (i : Nat) : ByteArray := ⟨(keptL.getD i []).toArray⟩
theorem kept_15 (l : List UInt8) : keptL.contains l = ((keptL.take 15).contains l || (l == [110, 101, 118, 101, 114])) := by
  rw [Bool.eq_iff_iff]
  simp only [List.contains_iff_mem, Bool.or_eq_true, beq_iff_eq]
  have e : keptL = keptL.take 15 ++ [[110, 101, 118, 101, 114]] := rfl
  conv => lhs; rw [e]
  rw [List.mem_append, List.mem_singleton]
theorem name_is (l : List UInt8) : nameL l = (!(keptL.take 15).contains l && !(l == [110, 101, 118, 101, 114]) && wordB l) := by
  rw [word_is]
  unfold nameL
  rw [kept_15]
  generalize (!l.isEmpty && decide (l.length ≤ 16) && lttI ((l.head?.map fun c => (c.toNat : Int)).getD 0) && (spanL wrdI l == l.length)) = X
  cases X <;> simp
def keptT : Obj := .cells #[.string ⟨#[99, 108, 111, 99, 107]⟩, .string ⟨#[105, 110, 116]⟩, .string ⟨#[99, 104, 97, 110]⟩, .string ⟨#[97, 117, 116, 111]⟩, .string ⟨#[108, 111, 99]⟩, .string ⟨#[101, 100, 103, 101]⟩, .string ⟨#[105, 110]⟩, .string ⟨#[105, 110, 118]⟩, .string ⟨#[119, 104, 101, 110]⟩, .string ⟨#[115, 121, 110, 99]⟩, .string ⟨#[100, 111]⟩, .string ⟨#[117, 114, 103, 101, 110, 116]⟩, .string ⟨#[99, 111, 109, 109, 105, 116, 116, 101, 100]⟩, .string ⟨#[116, 114, 117, 101]⟩, .string ⟨#[114, 101, 97, 99, 104]⟩] 59
theorem keptT_cell (W : World) (i : Nat) (h : i < 15) : (W.alloc keptT).cell? ⟨W.heap.size, i, none⟩ = some (.string (keep15 i)) := by
  unfold keptT
  match i, h with
  | 0, _ => simp [go_sem]; rfl
  | 1, _ => simp [go_sem]; rfl
  | 2, _ => simp [go_sem]; rfl
  | 3, _ => simp [go_sem]; rfl
  | 4, _ => simp [go_sem]; rfl
  | 5, _ => simp [go_sem]; rfl
  | 6, _ => simp [go_sem]; rfl
  | 7, _ => simp [go_sem]; rfl
  | 8, _ => simp [go_sem]; rfl
  | 9, _ => simp [go_sem]; rfl
  | 10, _ => simp [go_sem]; rfl
  | 11, _ => simp [go_sem]; rfl
  | 12, _ => simp [go_sem]; rfl
  | 13, _ => simp [go_sem]; rfl
  | 14, _ => simp [go_sem]; rfl
theorem keep_yes (s : ByteArray) (k : Nat) (hk : k < 15) (e : (s.toList == (keep15 k).toList) = true) : (keptL.take 15).contains s.data.toList = true := by
  rw [ByteArray.toList_eq, ByteArray.toList_eq] at e
  have hk' : k < (keptL.take 15).length := hk
  have e2 : s.data.toList = (keptL.take 15)[k]'hk' := by
    have : s.data.toList = keptL.getD k [] := by simpa [keep15] using e
    rw [this, List.getElem_take]
    simp [List.getD, List.getElem?_eq_getElem (show k < keptL.length from by show k < 16; omega)]
  rw [List.contains_iff_mem, e2]
  exact List.getElem_mem _
theorem keep_no (s : ByteArray) (e : ∀ j, j < 15 → (s.toList == (keep15 j).toList) = false) : (keptL.take 15).contains s.data.toList = false := by
  cases q : (keptL.take 15).contains s.data.toList
  · rfl
  · rw [List.contains_iff_mem] at q
    obtain ⟨j, hj, g⟩ := List.getElem_of_mem q
    have hj' : j < 15 := hj
    have := e j hj'
    rw [ByteArray.toList_eq, ByteArray.toList_eq] at this
    have e2 : s.data.toList = (keep15 j).data.toList := by
      rw [← g]
      simp [keep15, List.getD, List.getElem?_eq_getElem (show j < keptL.length from by show j < 16; omega)]
    rw [e2] at this
    simp at this
theorem never_is (s : ByteArray) : (s.toList == [110, 101, 118, 101, 114]) = (s.data.toList == [110, 101, 118, 101, 114]) := by
  rw [ByteArray.toList_eq]
set_option maxRecDepth 100000 in
set_option maxHeartbeats 2000000 in
theorem xname_any (s : ByteArray) (w : World) (hs : s.size ≤ 140737488355328) : Calls Tryd.prog 18 #[.string s] w fun e w' => e = .returned (.bool (nameL s.data.toList)) ∧ Below w.heap.size w w' := by
  have NM := hideR (name_is s.data.toList)
  have CE : Hid (∀ i, i < 15 → (w.alloc keptT).cell? ⟨w.heap.size, i, none⟩ = some (.string (keep15 i))) := fun i h => keptT_cell w i h
  have NX := hideR (fun w => xnext_in s 0 w (Nat.zero_le _) hs)
  have KY := hideR (keep_yes s)
  have KN := hideR (keep_no s)
  have B0 : Hid (Below w.heap.size w (w.alloc keptT)) := Below.alloc (Below.refl _ _) (Nat.le_refl _) _
  have B1 : Hid (w.heap.size < (w.alloc keptT).heap.size) := by show _ < _; simp
  go_enter Tryd.func18, Tryd.ntmps18
  go_wp2_with fail
  change Hid (∀ i, i < 15 → (w.alloc (.cells #[.string ⟨#[99, 108, 111, 99, 107]⟩, .string ⟨#[105, 110, 116]⟩, .string ⟨#[99, 104, 97, 110]⟩, .string ⟨#[97, 117, 116, 111]⟩, .string ⟨#[108, 111, 99]⟩, .string ⟨#[101, 100, 103, 101]⟩, .string ⟨#[105, 110]⟩, .string ⟨#[105, 110, 118]⟩, .string ⟨#[119, 104, 101, 110]⟩, .string ⟨#[115, 121, 110, 99]⟩, .string ⟨#[100, 111]⟩, .string ⟨#[117, 114, 103, 101, 110, 116]⟩, .string ⟨#[99, 111, 109, 109, 105, 116, 116, 101, 100]⟩, .string ⟨#[116, 114, 117, 101]⟩, .string ⟨#[114, 101, 97, 99, 104]⟩] 59)).cell? ⟨w.heap.size, i, none⟩ = some (.string (keep15 i))) at CE
  change Hid (Below w.heap.size w (w.alloc (.cells #[.string ⟨#[99, 108, 111, 99, 107]⟩, .string ⟨#[105, 110, 116]⟩, .string ⟨#[99, 104, 97, 110]⟩, .string ⟨#[97, 117, 116, 111]⟩, .string ⟨#[108, 111, 99]⟩, .string ⟨#[101, 100, 103, 101]⟩, .string ⟨#[105, 110]⟩, .string ⟨#[105, 110, 118]⟩, .string ⟨#[119, 104, 101, 110]⟩, .string ⟨#[115, 121, 110, 99]⟩, .string ⟨#[100, 111]⟩, .string ⟨#[117, 114, 103, 101, 110, 116]⟩, .string ⟨#[99, 111, 109, 109, 105, 116, 116, 101, 100]⟩, .string ⟨#[116, 114, 117, 101]⟩, .string ⟨#[114, 101, 97, 99, 104]⟩] 59))) at B0
  change Hid (w.heap.size < (w.alloc (.cells #[.string ⟨#[99, 108, 111, 99, 107]⟩, .string ⟨#[105, 110, 116]⟩, .string ⟨#[99, 104, 97, 110]⟩, .string ⟨#[97, 117, 116, 111]⟩, .string ⟨#[108, 111, 99]⟩, .string ⟨#[101, 100, 103, 101]⟩, .string ⟨#[105, 110]⟩, .string ⟨#[105, 110, 118]⟩, .string ⟨#[119, 104, 101, 110]⟩, .string ⟨#[115, 121, 110, 99]⟩, .string ⟨#[100, 111]⟩, .string ⟨#[117, 114, 103, 101, 110, 116]⟩, .string ⟨#[99, 111, 109, 109, 105, 116, 116, 101, 100]⟩, .string ⟨#[116, 114, 117, 101]⟩, .string ⟨#[114, 101, 97, 99, 104]⟩] 59)).heap.size) at B1
  generalize w.alloc (.cells #[.string ⟨#[99, 108, 111, 99, 107]⟩, .string ⟨#[105, 110, 116]⟩, .string ⟨#[99, 104, 97, 110]⟩, .string ⟨#[97, 117, 116, 111]⟩, .string ⟨#[108, 111, 99]⟩, .string ⟨#[101, 100, 103, 101]⟩, .string ⟨#[105, 110]⟩, .string ⟨#[105, 110, 118]⟩, .string ⟨#[119, 104, 101, 110]⟩, .string ⟨#[115, 121, 110, 99]⟩, .string ⟨#[100, 111]⟩, .string ⟨#[117, 114, 103, 101, 110, 116]⟩, .string ⟨#[99, 111, 109, 109, 105, 116, 116, 101, 100]⟩, .string ⟨#[116, 114, 117, 101]⟩, .string ⟨#[114, 101, 97, 99, 104]⟩] 59) = W at *
  go_loopw [4] (fun i wr => ∃ k : Nat, k ≤ 15 ∧ i = .int .i64 k ∧ wr = W ∧ Hid (∀ j, j < k → (s.toList == (keep15 j).toList) = false)) (fun i _ => 15 - (intOf i).toNat)
  case atStart => exact ⟨0, by omega, rfl, rfl, fun j h => by omega⟩
  case round =>
    obtain ⟨k, hk, rfl, rfl, E⟩ := hrel
    by_cases ck : k < 15
    · have k0 : (0 : Int) ≤ (k : Int) := by omega
      have k1 : (k : Int) < 15 := by omega
      have C := CE.out k ck
      by_cases q : (s.toList == (keep15 k).toList) = true
      · have R : Hid (nameL s.data.toList = false) := by show _ = _; rw [NM.out, KY.out k ck q]; rfl
        clear NM CE NX KY KN E
        generalize keep15 k = kb at *
        go_wp2_with fail
        go_ret
        exact ⟨by rw [R.out]; rfl, B0.out⟩
      · have q' : (s.toList == (keep15 k).toList) = false := by simpa using q
        have E2 : Hid (∀ j, j < k + 1 → (s.toList == (keep15 j).toList) = false) := fun j hj => by
          by_cases e : j = k
          · subst e; exact q'
          · exact E.out j (by omega)
        clear E q
        generalize keep15 k = kb at *
        go_wp2_with fail
        go_roundw
        case rel => exact ⟨k + 1, by omega, by go_num, by first | rfl | trivial, E2⟩
        case measure => simp [intOf]; omega
    · obtain rfl : k = 15 := by omega
      have R : Hid (nameL s.data.toList = (!(s.toList == [110, 101, 118, 101, 114]) && wordB s.data.toList)) := by show _ = _; rw [NM.out, KN.out E.out, never_is]; rfl
      unfold wordB at R
      unfold nextXV at NX
      clear NM CE KY KN E
      have T0 := tok_len s.data.toList 0 (Nat.zero_le _)
      rw [len_of] at R T0
      generalize tokL s.data.toList 0 = r at *
      generalize begL s.data.toList 0 = b at *
      obtain ⟨r0, r1, r2, r3⟩ := r
      simp only at R T0
      go_wp2_with fail
      have NC := hideR (NX.out wr)
      clear NX
      by_cases c : r0 = 0
      · subst c
        unfold nextXW at NC
        simp only [if_pos] at NC
        refine NC.out.mono ?_
        rintro e w1 ⟨rfl, hb⟩
        clear NC
        replace B0 := hideR (B0.out.trans (hb.mono (Nat.le_of_lt B1.out)))
        have B2 := hideR (Nat.lt_of_lt_of_le B1.out hb.size)
        clear hb B1
        have e3 : ((b : Int) + (r2 : Int) == (s.size : Int)) = (b + r2 == s.size) := by
          rw [Bool.eq_iff_iff]; simp only [beq_iff_eq]; omega
        have e4 : ((b : Int) == 0) = (b == 0) := by
          rw [Bool.eq_iff_iff]; simp only [beq_iff_eq]; omega
        by_cases n : (s.toList == [110, 101, 118, 101, 114]) = true
        · replace R : Hid (nameL s.data.toList = false) := by show _ = _; rw [R.out, n]; rfl
          go_wp2_with fail
          go_ret
          exact ⟨by rw [R.out]; rfl, Below.alloc B0.out (Nat.le_of_lt B2.out) _⟩
        have n' : (s.toList == [110, 101, 118, 101, 114]) = false := by simpa using n
        clear n
        by_cases p : (r1 == 1) = true
        · by_cases q : (b + r2 == s.size) = true
          · by_cases u : (b == 0) = true
            · replace R : Hid (nameL s.data.toList = decide (s.size ≤ 16)) := by show _ = _; rw [R.out, n', p, q, u]; rfl
              have q1 : (b : Int) + (r2 : Int) = (s.size : Int) := by simp only [beq_iff_eq] at q; omega
              have u1 : b = 0 := by simpa using u
              subst u1
              have p1 : r1 = 1 := by simpa using p
              subst p1
              clear e3 e4 p q u
              by_cases v : s.size ≤ 16
              · replace R : Hid (nameL s.data.toList = true) := by show _ = _; rw [R.out, decide_eq_true v]
                have v1 : (s.size : Int) ≤ 16 := by omega
                go_wp2_with fail
                go_ret
                exact ⟨by rw [R.out]; rfl, Below.alloc B0.out (Nat.le_of_lt B2.out) _⟩
              · replace R : Hid (nameL s.data.toList = false) := by show _ = _; rw [R.out, decide_eq_false v]
                have v1 : decide ((s.size : Int) ≤ 16) = false := by simp; omega
                go_wp2_with fail
                go_ret
                exact ⟨by rw [R.out]; rfl, Below.alloc B0.out (Nat.le_of_lt B2.out) _⟩
            · have u' : (b == 0) = false := by simpa using u
              replace R : Hid (nameL s.data.toList = false) := by show _ = _; rw [R.out, n', p, q, u']; rfl
              have q1 : (b : Int) + (r2 : Int) = (s.size : Int) := by simp only [beq_iff_eq] at q; omega
              have u1 : ¬ (b : Int) = 0 := by simp only [beq_eq_false_iff_ne, ne_eq] at u'; omega
              have p1 : r1 = 1 := by simpa using p
              subst p1
              clear e3 e4 p q u u'
              go_wp2_with fail
              go_ret
              exact ⟨by rw [R.out]; rfl, Below.alloc B0.out (Nat.le_of_lt B2.out) _⟩
          · have q' : (b + r2 == s.size) = false := by simpa using q
            replace R : Hid (nameL s.data.toList = false) := by show _ = _; rw [R.out, n', p, q']; rfl
            have q1 : ¬ (b : Int) + (r2 : Int) = (s.size : Int) := by simp only [beq_eq_false_iff_ne, ne_eq] at q'; omega
            have p1 : r1 = 1 := by simpa using p
            subst p1
            clear e3 e4 p q q'
            go_wp2_with fail
            go_ret
            exact ⟨by rw [R.out]; rfl, Below.alloc B0.out (Nat.le_of_lt B2.out) _⟩
        · have p' : (r1 == 1) = false := by simpa using p
          replace R : Hid (nameL s.data.toList = false) := by show _ = _; rw [R.out, n', p']; rfl
          clear e3 e4 p
          go_wp2_with fail
          go_ret
          exact ⟨by rw [R.out]; rfl, Below.alloc B0.out (Nat.le_of_lt B2.out) _⟩
      · have c' : (r0 == 0) = false := by simpa using c
        replace R : Hid (nameL s.data.toList = false) := by show _ = _; rw [R.out, c']; simp
        unfold nextXW at NC
        simp only [if_neg c] at NC
        refine NC.out.mono ?_
        rintro e w1 ⟨rfl, hb⟩
        clear NC
        replace B0 := hideR (B0.out.trans (hb.mono (Nat.le_of_lt B1.out)))
        have B2 := hideR (Nat.lt_of_lt_of_le B1.out hb.size)
        clear hb B1
        by_cases n : (s.toList == [110, 101, 118, 101, 114]) = true
        · go_wp2_with fail
          go_ret
          exact ⟨by rw [R.out]; rfl, Below.alloc B0.out (Nat.le_of_lt B2.out) _⟩
        · have n' : (s.toList == [110, 101, 118, 101, 114]) = false := by simpa using n
          clear n
          go_wp2_with fail
          go_ret
          exact ⟨by rw [R.out]; rfl, Below.alloc B0.out (Nat.le_of_lt B2.out) _⟩
end Go.Proofs.YtabjadbpllhgkaaDoor
