/-
  The document's Next: the walk over signs.
-/
import Derived.Test.YtabjadbpllhgkaaDoorMc
namespace Go.Proofs.YtabjadbpllhgkaaDoor
open Go.RowKit
set_option linter.unusedVariables false
def signT : Obj := .cells #[.string ⟨#[46, 46]⟩, .string ⟨#[58, 61]⟩, .string ⟨#[45, 62]⟩, .string ⟨#[38, 38]⟩, .string ⟨#[124, 124]⟩, .string ⟨#[33, 61]⟩, .string ⟨#[60, 61]⟩, .string ⟨#[61, 61]⟩, .string ⟨#[62, 61]⟩, .string ⟨#[]⟩, .string ⟨#[]⟩] 52
theorem sign_cell (W : World) (i : Nat) (h : i < 9) : (W.alloc signT).cell? ⟨W.heap.size, i, none⟩ = some (.string (twoA i)) := by
  unfold signT
  match i, h with
  | 0, _ => simp [go_sem, twoA]
  | 1, _ => simp [go_sem, twoA]
  | 2, _ => simp [go_sem, twoA]
  | 3, _ => simp [go_sem, twoA]
  | 4, _ => simp [go_sem, twoA]
  | 5, _ => simp [go_sem, twoA]
  | 6, _ => simp [go_sem, twoA]
  | 7, _ => simp [go_sem, twoA]
  | 8, _ => simp [go_sem, twoA]
def SignAt (wr w : World) : Prop := XAt wr w ∧ ∀ i, i < 9 → wr.cell? ⟨w.heap.size + 1, i, none⟩ = some (.string (twoA i))
theorem sign_start (w : World) : SignAt ((w.alloc (.cells #[.int .i64 0, .string ⟨#[]⟩, .int .i64 0, .int .i64 0] 29)).alloc signT) w :=
  ⟨x_later (x_start w) (Below.alloc (Below.refl _ _) (Nat.le_refl _) _) (by simp), fun i h => by
    have := sign_cell (w.alloc (.cells #[.int .i64 0, .string ⟨#[]⟩, .int .i64 0, .int .i64 0] 29)) i h
    simp only [World.size_alloc] at this
    exact this⟩
theorem x_drew {wr w : World} (h : XAt wr w) (n : Nat) : XAt (wr.drewN n) w :=
  ⟨h.1, h.2.1, h.2.2.1, h.2.2.2.1, h.2.2.2.2.1, h.2.2.2.2.2.1, h.2.2.2.2.2.2.1, h.2.2.2.2.2.2.2.1, below_drewN h.2.2.2.2.2.2.2.2 n⟩
theorem sign_drew {wr w : World} (h : SignAt wr w) (n : Nat) : SignAt (wr.drewN n) w :=
  ⟨⟨h.1.1, h.1.2.1, h.1.2.2.1, h.1.2.2.2.1, h.1.2.2.2.2.1, h.1.2.2.2.2.2.1, h.1.2.2.2.2.2.2.1, h.1.2.2.2.2.2.2.2.1, below_drewN h.1.2.2.2.2.2.2.2.2 n⟩, fun i g => h.2 i g⟩
theorem ext_two (s : ByteArray) (b : Nat) (h : b + 2 ≤ s.size) : (s.extract b (b + 2)).data.toList = [s[b]'(by omega), s[b + 1]'(by omega)] := by
  have e : (s.extract b (b + 2)).data.toList = (s.data.toList.drop b).take 2 := by
    simp only [ByteArray.data_extract, Array.toList_extract, List.extract_eq_take_drop]
    congr 1
    omega
  rw [e, drop_next s b (by omega), drop_next s (b + 1) (by omega)]
  rfl
def isTwo (s : ByteArray) (b : Nat) (h : b < s.size) : Bool := (inL lowA s[b] || inL lowC s[b]) && pairL (s.data.toList.drop b)
theorem two_yes (s : ByteArray) (b k : Nat) (h : b < s.size) (hk : k < 9) (g : b + 2 ≤ s.size) (e : (twoA k).data.toList = (s.extract b (b + 2)).data.toList) : isTwo s b h = true := by
  rw [ext_two s b g] at e
  have := (two_of (s[b]'h) (s[b + 1]'(by omega))).1 ⟨k, hk, e⟩
  unfold isTwo
  rw [drop_next s b h, drop_next s (b + 1) (by omega), pairL, this.1, this.2]
  rfl
theorem two_no (s : ByteArray) (b : Nat) (h : b < s.size) (e : ∀ j, j < 9 → b + 2 ≤ s.size → ¬ (twoA j).data.toList = (s.extract b (b + 2)).data.toList) : isTwo s b h = false := by
  cases q : isTwo s b h
  · rfl
  · exfalso
    unfold isTwo at q
    rw [Bool.and_eq_true] at q
    obtain ⟨q1, q2⟩ := q
    have hl := pair_len _ q2
    rw [List.length_drop, len_of] at hl
    have g : b + 2 ≤ s.size := by omega
    rw [drop_next s b h, drop_next s (b + 1) (by omega), pairL] at q2
    obtain ⟨i, hi, h2⟩ := (two_of (s[b]'h) (s[b + 1]'(by omega))).2 ⟨q1, q2⟩
    exact e i hi g (by rw [ext_two s b g]; exact h2)
theorem sign_is (s : ByteArray) (b : Nat) (h : b < s.size) (hd : digI (s[b].toNat : Int) = false) (hl : lttI (s[b].toNat : Int) = false) :
    firstM (s.data.toList.drop b) = if isTwo s b h = true then (0, 3, 2, 0) else if oneA.contains s[b] = true then (0, 3, 1, 0) else (90, 0, 0, 0) := by
  have e := first_sign s[b] (s.data.toList.drop (b + 1)) hl hd
  rw [← drop_next s b h] at e
  exact e
theorem bytes_same (a c : ByteArray) : (a.toList == c.toList) = true ↔ c.data.toList = a.data.toList := by
  rw [ByteArray.toList_eq, ByteArray.toList_eq]
  simp only [beq_iff_eq]
  exact ⟨fun h => h.symm, fun h => h.symm⟩
theorem one_at (i : Nat) (h : i < 14) : oneA[i]'h = (⟨#[44, 59, 46, 123, 125, 40, 41, 33, 60, 62, 63, 43, 45, 42]⟩ : ByteArray)[i]'h := by
  have : (⟨#[44, 59, 46, 123, 125, 40, 41, 33, 60, 62, 63, 43, 45, 42]⟩ : ByteArray).data.toList = oneA := rfl
  rfl
theorem ext_one (s : ByteArray) (b : Nat) (h : b < s.size) : (s.extract b (b + 1)).data.toList = [s[b]] := by
  have e : (s.extract b (b + 1)).data.toList = (s.data.toList.drop b).take 1 := by
    simp only [ByteArray.data_extract, Array.toList_extract, List.extract_eq_take_drop]
    congr 1
    omega
  rw [e, drop_next s b h]
  rfl
theorem one_text (s : ByteArray) (b k : Nat) (h : b < s.size) (hk : k < 14) (e : oneA[k]'hk = s[b]) : (⟨#[44, 59, 46, 123, 125, 40, 41, 33, 60, 62, 63, 43, 45, 42]⟩ : ByteArray).extract k (k + 1) = s.extract b (b + 1) := by
  have a := ext_one s b h
  have c := ext_one ⟨#[44, 59, 46, 123, 125, 40, 41, 33, 60, 62, 63, 43, 45, 42]⟩ k hk
  rw [← one_at k hk, e, ← a] at c
  exact ByteArray.ext (Array.toList_inj.1 c)
theorem one_none (s : ByteArray) (b : Nat) (h : b < s.size) (e : ∀ j (hj : j < 14), j < 14 → ¬ oneA[j]'hj = s[b]) : oneA.contains s[b] = false := by
  cases q : oneA.contains s[b]
  · rfl
  · rw [List.contains_iff_mem] at q
    obtain ⟨j, hj, g⟩ := List.getElem_of_mem q
    exact absurd g (e j hj hj)
set_option maxRecDepth 100000 in
set_option maxHeartbeats 1000000 in
theorem xnext_sign (s : ByteArray) (a b : Nat) (w : World) (ha : a ≤ s.size) (hs : s.size ≤ 140737488355328) (hb : BegAt s a b) (hbs : b < s.size) (hd : digI (s[b].toNat : Int) = false) (hl : lttI (s[b].toNat : Int) = false) :
    Calls Tryd.prog 10 #[.string s, .int .i64 a] w fun e w' => e = .returned (nextXW s b (firstM (s.data.toList.drop b))) ∧ Below w.heap.size w w' := by
  have i0 : ¬ (a : Int) < 0 := by omega
  have i1 : ¬ (s.size : Int) < (a : Int) := by omega
  have i2 : (0 : Int) ≤ (b : Int) := by omega
  have i3 : (b : Int) < (s.size : Int) := by omega
  have i4 : ¬ (b : Int) = (s.size : Int) := by omega
  have HB := hideR hb
  have HD : Hid (∀ w, Calls Tryd.prog 24 #[.int .u8 (s[b].toNat : Int)] w fun e w' => e = .returned (.bool false) ∧ w' = w) := hideR fun w => by have := xdigit_any (s[b].toNat : Int) w; rw [hd] at this; exact this
  have HL : Hid (∀ w, Calls Tryd.prog 26 #[.int .u8 (s[b].toNat : Int)] w fun e w' => e = .returned (.bool false) ∧ w' = w) := hideR fun w => by have := xletter_any (s[b].toNat : Int) w; rw [hl] at this; exact this
  have T0 := hideR (sign_start w)
  unfold signT at T0
  have FI := sign_is s b hbs hd hl
  rw [FI]
  have T2 := hideR (fun (k : Nat) (hk : k < 9) g e => two_yes s b k hbs hk g e)
  have T9 := hideR (two_no s b hbs)
  generalize isTwo s b hbs = P at *
  have V2 : Hid (P = true → nextXW s b (if P = true then (0, 3, 2, 0) else if oneA.contains s[b] = true then (0, 3, 1, 0) else (90, 0, 0, 0)) = .tuple #[tokX 3 (s.extract b (b + 2)) 0 b, .int .i64 ((b + 2 : Nat)), .int .i64 0]) := fun h => by rw [if_pos h]; rfl
  have V1 : Hid (P = false → oneA.contains s[b] = true → nextXW s b (if P = true then (0, 3, 2, 0) else if oneA.contains s[b] = true then (0, 3, 1, 0) else (90, 0, 0, 0)) = .tuple #[tokX 3 (s.extract b (b + 1)) 0 b, .int .i64 ((b + 1 : Nat)), .int .i64 0]) := fun h g => by rw [h, if_neg (by decide), if_pos g]; rfl
  have V0 : Hid (P = false → oneA.contains s[b] = false → nextXW s b (if P = true then (0, 3, 2, 0) else if oneA.contains s[b] = true then (0, 3, 1, 0) else (90, 0, 0, 0)) = .tuple #[tokX 0 ⟨#[]⟩ 0 0, .int .i64 b, .int .i64 90]) := fun h g => by rw [h, if_neg (by decide), if_neg (by rw [g]; decide)]; rfl
  generalize nextXW s b (if P = true then (0, 3, 2, 0) else if oneA.contains s[b] = true then (0, 3, 1, 0) else (90, 0, 0, 0)) = V at *
  clear FI
  clear hb hd hl
  go_enter Tryd.func10, Tryd.ntmps10
  go_wp2_with fail
  refine (HB.out _).mono ?_
  rintro e w1 ⟨rfl, rfl⟩
  go_wp2_with fail
  refine (HD.out _).mono ?_
  rintro e w1 ⟨rfl, rfl⟩
  go_wp2_with fail
  refine (HL.out _).mono ?_
  rintro e w1 ⟨rfl, rfl⟩
  go_wp2_with fail
  clear HB HD HL
  generalize ((w.alloc (.cells #[.int .i64 0, .string ⟨#[]⟩, .int .i64 0, .int .i64 0] 29)).alloc (.cells #[.string ⟨#[46, 46]⟩, .string ⟨#[58, 61]⟩, .string ⟨#[45, 62]⟩, .string ⟨#[38, 38]⟩, .string ⟨#[124, 124]⟩, .string ⟨#[33, 61]⟩, .string ⟨#[60, 61]⟩, .string ⟨#[61, 61]⟩, .string ⟨#[62, 61]⟩, .string ⟨#[]⟩, .string ⟨#[]⟩] 52)) = W at *
  go_loopw [9] (fun i wr => ∃ k : Nat, k ≤ 9 ∧ i = .int .i64 k ∧ Hid (SignAt wr w) ∧ Hid (∀ j, j < k → b + 2 ≤ s.size → ¬ (twoA j).data.toList = (s.extract b (b + 2)).data.toList)) (fun i _ => 9 - (intOf i).toNat)
  case atStart => exact ⟨0, by omega, rfl, T0, fun j h => by omega⟩
  case round =>
    obtain ⟨k, hk, rfl, TA, E⟩ := hrel
    clear T0
    by_cases ck : k < 9
    · have k0 : (0 : Int) ≤ (k : Int) := by omega
      have k1 : (k : Int) < 9 := by omega
      by_cases g : b + 2 ≤ s.size
      · have g' : (b : Int) + 2 ≤ (s.size : Int) := by omega
        have g2 : (b : Int) ≤ (b : Int) + 2 := by omega
        have C := TA.out.2 k ck
        have k2 : (k : Int) < 11 := by omega
        by_cases q : ((s.extract b (b + 2)).toList == (twoA k).toList) = true
        · have q1 := (bytes_same _ _).1 q
          have R := hideR (V2.out (T2.out k ck g q1))
          have q2 : Hid (twoA k = s.extract b (b + 2)) := ByteArray.ext (Array.toList_inj.1 q1)
          obtain ⟨⟨x0, x1, x2, x3, f0, f1, f2, f3, B0⟩, -⟩ := TA.out
          clear TA E T2 T9 V2 V1 V0 q1
          generalize twoA k = tw at *
          go_wp2_with fail
          go_quiet (fail)
          go_wp2_with fail
          refine bodyPost_ret (v := .tuple #[tokX 3 tw 0 b, .int .i64 ((b + 2 : Nat)), .int .i64 0]) (by simp [results, Tryd.results10, go_sem, *]) rfl ⟨by rw [R.out, q2.out], ?_⟩
          first | exact set4 (below_drewN B0 _) (Nat.le_refl _) _ _ _ _ | exact below_drewN (set4 B0 (Nat.le_refl _) _ _ _ _) _
        · have q' : ((s.extract b (b + 2)).toList == (twoA k).toList) = false := by simpa using q
          have E2 : Hid (∀ j, j < k + 1 → b + 2 ≤ s.size → ¬ (twoA j).data.toList = (s.extract b (b + 2)).data.toList) := fun j hj hg => by
            by_cases e : j = k
            · subst e; exact fun h => q ((bytes_same _ _).2 h)
            · exact E.out j (by omega) hg
          clear E q
          generalize twoA k = tw at *
          go_wp2_with fail
          go_quiet (fail)
          go_wp2_with fail
          go_roundw
          case rel => exact ⟨k + 1, by omega, by go_num, sign_drew TA.out _, E2⟩
          case measure => simp [intOf]; omega
      · have g' : ¬ (b : Int) + 2 ≤ (s.size : Int) := by omega
        have g2 : decide ((b : Int) + 2 ≤ (s.size : Int)) = false := by simpa using g'
        have E2 : Hid (∀ j, j < k + 1 → b + 2 ≤ s.size → ¬ (twoA j).data.toList = (s.extract b (b + 2)).data.toList) := fun j hj hg => absurd hg g
        clear E
        go_wp2_with fail
        go_quiet (fail)
        go_wp2_with fail
        go_roundw
        case rel => exact ⟨k + 1, by omega, by go_num, sign_drew TA.out _, E2⟩
        case measure => simp [intOf]; omega
    · obtain rfl : k = 9 := by omega
      have p := T9.out E.out
      have W1 := hideR (V1.out p)
      have W0 := hideR (V0.out p)
      have XA := hideR TA.out.1
      clear T2 T9 V2 V1 V0 p TA E
      go_wp2_with fail
      go_loopw [11] (fun i w3 => ∃ k : Nat, k ≤ 14 ∧ i = .int .i64 k ∧ Hid (XAt w3 w) ∧ Hid (∀ j (hj : j < 14), j < k → ¬ oneA[j]'hj = s[b])) (fun i _ => 14 - (intOf i).toNat)
      case atStart => exact ⟨0, by omega, rfl, XA, fun j _ h => by omega⟩
      case round =>
        obtain ⟨k, hk, rfl, TA, E⟩ := hrel
        clear XA
        by_cases ck : k < 14
        · have k0 : (0 : Int) ≤ (k : Int) := by omega
          have k1 : (k : Int) < 14 := by omega
          have k3 : (k : Int) ≤ (k : Int) + 1 := by omega
          have k4 : (k : Int) + 1 ≤ 14 := by omega
          by_cases q : ((s[b].toNat : Int) == ((⟨#[44, 59, 46, 123, 125, 40, 41, 33, 60, 62, 63, 43, 45, 42]⟩ : ByteArray)[k]'ck).toNat) = true
          · have q1 : oneA[k]'ck = s[b] := by
              rw [one_at k ck]
              apply UInt8.toNat_inj.1
              simp only [beq_iff_eq] at q
              omega
            have q2 : Hid ((⟨#[44, 59, 46, 123, 125, 40, 41, 33, 60, 62, 63, 43, 45, 42]⟩ : ByteArray).extract k (k + 1) = s.extract b (b + 1)) := one_text s b k hbs ck q1
            have R := hideR (W1.out (by rw [List.contains_iff_mem, ← q1]; exact List.getElem_mem _))
            obtain ⟨x0, x1, x2, x3, f0, f1, f2, f3, B0⟩ := TA.out
            clear TA E W1 W0 q1
            go_wp2_with fail
            go_quiet (fail)
            go_wp2_with fail
            refine bodyPost_ret (v := .tuple #[tokX 3 ((⟨#[44, 59, 46, 123, 125, 40, 41, 33, 60, 62, 63, 43, 45, 42]⟩ : ByteArray).extract k (k + 1)) 0 b, .int .i64 ((b + 1 : Nat)), .int .i64 0]) (by simp [results, Tryd.results10, go_sem, *]) rfl ⟨by rw [R.out, q2.out], ?_⟩
            first | exact set4 (below_drewN B0 _) (Nat.le_refl _) _ _ _ _ | exact below_drewN (set4 B0 (Nat.le_refl _) _ _ _ _) _
          · have q' : ((s[b].toNat : Int) == ((⟨#[44, 59, 46, 123, 125, 40, 41, 33, 60, 62, 63, 43, 45, 42]⟩ : ByteArray)[k]'ck).toNat) = false := by simpa using q
            have E2 : Hid (∀ j (hj : j < 14), j < k + 1 → ¬ oneA[j]'hj = s[b]) := fun j hj hjk => by
              by_cases e : j = k
              · subst e
                intro h
                rw [one_at j hj] at h
                apply q
                rw [h]
                simp
              · exact E.out j hj (by omega)
            clear E q
            go_wp2_with fail
            go_quiet (fail)
            go_wp2_with fail
            go_roundw
            case rel => exact ⟨k + 1, by omega, by go_num, x_drew TA.out _, E2⟩
            case measure => simp [intOf]; omega
        · obtain rfl : k = 14 := by omega
          have R := hideR (W0.out (one_none s b hbs E.out))
          obtain ⟨x0, x1, x2, x3, f0, f1, f2, f3, B0⟩ := TA.out
          clear TA E W1 W0
          go_wp2_with fail
          refine bodyPost_ret (v := .tuple #[tokX 0 ⟨#[]⟩ 0 0, .int .i64 b, .int .i64 90]) (by simp [results, Tryd.results10, go_sem, *]) rfl ⟨by rw [R.out], ?_⟩
          exact set4 B0 (Nat.le_refl _) _ _ _ _
theorem xnext_in (s : ByteArray) (a : Nat) (w : World) (ha : a ≤ s.size) (hs : s.size ≤ 140737488355328) :
    Calls Tryd.prog 10 #[.string s, .int .i64 a] w fun e w' => e = .returned (nextXV s a) ∧ Below w.heap.size w w' := by
  have hb := beg_at s a ha hs
  obtain ⟨b0, b1⟩ := beg_le s.data.toList a (by rw [len_of]; exact ha)
  rw [len_of] at b1
  unfold nextXV tokL
  generalize begL s.data.toList a = b at *
  by_cases c : b < s.size
  · cases hd : digI (s[b].toNat : Int)
    · cases hl : lttI (s[b].toNat : Int)
      · exact xnext_sign s a b w ha hs hb c hd hl
      · have e : firstM (s.data.toList.drop b) = (0, 1, spanL wrdI (s.data.toList.drop b), 0) := by rw [drop_next s b c, firstM, if_pos hl]
        rw [e]
        exact xnext_word s a b w ha hs hb c hd hl
    · exact xnext_num s a b w ha hs hb c hd
  · obtain rfl : b = s.size := by omega
    have e : s.data.toList.drop s.size = [] := by rw [← len_of s]; exact List.drop_length
    rw [e]
    refine (xnext_end s a w ha hs hb).mono ?_
    rintro e w1 ⟨rfl, hb⟩
    exact ⟨by unfold nextXW firstM; simp only [if_pos, Nat.add_zero]; rw [cut_at0], hb⟩
end Go.Proofs.YtabjadbpllhgkaaDoor
