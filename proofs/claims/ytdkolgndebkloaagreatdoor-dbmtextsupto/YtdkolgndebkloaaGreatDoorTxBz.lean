/-
  The walk of the statement DbmTexts.
-/
import Derived.Test.YtdkolgndebkloaaGreatDoorTxAz
import Derived.Test.YtdkolgndebkloaaGreatDoorTxLz
namespace Go.Proofs.YtdkolgndebkloaaGreatDoor
open Go.RowKit Go.Shelf
set_option linter.unusedVariables false
set_option maxRecDepth 100000
theorem eqUpto_refl (c : Row) (k : Nat) : eqUpto c c k = true := by unfold eqUpto; simp
theorem print_len {N : Nat} {c : Row} (h8 : N ≤ 8) : (printZ N c).length ≤ 1048576 := by
  have m81 : (N + 1) * (N + 1) ≤ 81 := Nat.mul_le_mul (show N + 1 ≤ 9 by omega) (show N + 1 ≤ 9 by omega)
  unfold printZ
  split
  · have := itoa_len N (by omega)
    simp [headS]
    omega
  · have := accS_len N c h8 _ m81
    omega
/-- What both say of a zone's text and key. -/
theorem zone_says {N : Nat} {c : Row} (h8 : N ≤ 8) (zc : ZC N ((N + 1) * (N + 1)) c) (c32 : C32 c) : ∃ Z0 : ByteArray, Hid (Z0 = ⟨(printZ N c).toArray⟩) ∧
    Hid (∀ b w', ZoneAt w' b N c → Pow w' → Calls Tryz.prog 8 #[.pointer (some ⟨b, 0, none⟩)] w' fun e w'' => e = .returned (.string Z0) ∧ Below w'.heap.size w' w'') ∧
    Hid (∀ B r w', RZone w' B r N (listOf c ((N + 1) * (N + 1))) → Pow w' → Calls Tryz.prog 9 #[.pointer (some ⟨r, 0, none⟩)] w' fun e w'' => e = .returned (.string Z0) ∧ Below w'.heap.size w' w'') ∧
    Hid (∀ w', Pow w' → Errs w' → Calls Tryz.prog 5 #[.string Z0] w' fun e w'' => (∃ x, e = .returned (.tuple #[.pointer (some ⟨x, 0, none⟩), .int .i64 0]) ∧ ZoneAt w'' x N c) ∧ Below w'.heap.size w' w'') ∧
    Hid (∀ b w', ZoneAt w' b N c → Calls Tryz.prog 11 #[.pointer (some ⟨b, 0, none⟩)] w' fun e w'' => (∃ v, e = .returned v ∧ w''.ownsRow w'.heap.size 5 1 v (1 + 4 * ((N + 1) * (N + 1))) ((keyI N c ((N + 1) * (N + 1))).map (Value.int .u8))) ∧ Below w'.heap.size w' w'') ∧
    Hid (∀ B r w', RZone w' B r N (listOf c ((N + 1) * (N + 1))) → Calls Tryz.prog 12 #[.pointer (some ⟨r, 0, none⟩)] w' fun e w'' => (∃ v, e = .returned v ∧ w''.ownsRow w'.heap.size 5 1 v (1 + 4 * ((N + 1) * (N + 1))) ((keyI N c ((N + 1) * (N + 1))).map (Value.int .u8))) ∧ Below w'.heap.size w' w'') ∧
    Hid (∀ B1 B2 v v2 w', w'.ownsRow B1 5 1 v (1 + 4 * ((N + 1) * (N + 1))) ((keyI N c ((N + 1) * (N + 1))).map (Value.int .u8)) → w'.ownsRow B2 5 1 v2 (1 + 4 * ((N + 1) * (N + 1))) ((keyI N c ((N + 1) * (N + 1))).map (Value.int .u8)) → Calls Tryz.prog 10 #[v, v2] w' fun e w'' => e = .returned (.bool true) ∧ Below w'.heap.size w' w'') ∧
    Hid (∀ x b w', ZoneAt w' x N c → ZoneAt w' b N c → Calls Tryz.prog 16 #[.pointer (some ⟨x, 0, none⟩), .pointer (some ⟨b, 0, none⟩)] w' fun e w'' => e = .returned (.bool true) ∧ Below w'.heap.size w' w'') := by
  have m81 : (N + 1) * (N + 1) ≤ 81 := Nat.mul_le_mul (show N + 1 ≤ 9 by omega) (show N + 1 ≤ 9 by omega)
  refine ⟨_, rfl, fun b w' hz hp => printZ_any b N c w' h8 hz hp, fun B r w' hr hp => rprintZ_any r N _ B c w' h8 rfl hr (zc_print rfl zc) c32 hp, fun w' hp he => ?_, fun b w' hz => key_exact b N _ c w' h8 rfl m81 (fun k _ => c32 k) hz, fun B r w' hr => rkey_any r N _ B c w' h8 m81 c32 hr, fun B1 B2 v v2 w' h1 h2 => (keys_same N _ B1 B2 c v v2 w' m81 h1 h2).mono ?_, fun x b w' hx hb => (equal_any x b N c c w' hx hb).mono ?_⟩
  · refine (pparse_any (printZ N c) w' (print_len h8) hp he).mono ?_
    rintro e w'' ⟨⟨n1, c1, x, h1, z1, e1, rfl, hz⟩ | ⟨no, -⟩, hb⟩
    · obtain ⟨rfl, rfl⟩ := zprint_inj h8 h1 zc z1 e1
      exact ⟨⟨x, rfl, hz⟩, hb⟩
    · exact absurd ⟨N, c, h8, zc, rfl⟩ no
  · rintro e w'' ⟨rfl, k, rfl⟩
    exact ⟨rfl, below_drewN (Below.refl _ _) k⟩
  · rintro e w'' ⟨rfl, k, rfl⟩
    exact ⟨by rw [eqUpto_refl], below_drewN (Below.refl _ _) k⟩
/-- Both ways of a text: nothing, or one zone. -/
theorem text_says (S : ByteArray) (hup : S.size ≤ 1048576) :
    (Hid (∀ w', Pow w' → Errs w' → Calls Tryz.prog 5 #[.string S] w' fun e w'' => e = errOf 7 ∧ Below w'.heap.size w' w'') ∧ Hid (∀ w', Pow w' → Calls Tryz.prog 6 #[.string S] w' fun e w'' => e = errOf 7 ∧ Below w'.heap.size w' w'')) ∨
    (∃ N c, N ≤ 8 ∧ ZC N ((N + 1) * (N + 1)) c ∧ S = ⟨(printZ N c).toArray⟩ ∧
      Hid (∀ w', Pow w' → Errs w' → Calls Tryz.prog 5 #[.string S] w' fun e w'' => (∃ x, e = .returned (.tuple #[.pointer (some ⟨x, 0, none⟩), .int .i64 0]) ∧ ZoneAt w'' x N c) ∧ Below w'.heap.size w' w'') ∧
      Hid (∀ w', Pow w' → Calls Tryz.prog 6 #[.string S] w' fun e w'' => (∃ x B, e = .returned (.tuple #[.pointer (some ⟨x, 0, none⟩), .int .i64 0]) ∧ RZone w'' B x N (listOf c ((N + 1) * (N + 1)))) ∧ Below w'.heap.size w' w'')) := by
  have PP : ∀ w', Pow w' → Errs w' → Calls Tryz.prog 5 #[.string S] w' fun e w'' => ((∃ n c b, n ≤ 8 ∧ ZC n ((n + 1) * (n + 1)) c ∧ S.data.toList = printZ n c ∧ e = .returned (.tuple #[.pointer (some ⟨b, 0, none⟩), .int .i64 0]) ∧ ZoneAt w'' b n c) ∨ (¬ IsText S.data.toList ∧ e = errOf 7)) ∧ Below w'.heap.size w' w'' := fun w' hp he => by
    have := pparse_any S.data.toList w' (by rw [len_of]; exact hup) hp he
    rw [← bytes_of S] at this
    exact this
  by_cases ht : IsText S.data.toList
  · obtain ⟨N, c, h8, zc, es⟩ := ht
    refine .inr ⟨N, c, h8, zc, by rw [← es], fun w' hp he => (PP w' hp he).mono ?_, fun w' hp => (rparseZ_any S w' hup hp).mono ?_⟩
    · rintro e w'' ⟨⟨n1, c1, x, h1, z1, e1, rfl, hz⟩ | ⟨no, -⟩, hb⟩
      · obtain ⟨rfl, rfl⟩ := zprint_inj h8 h1 zc z1 (es.symm.trans e1)
        exact ⟨⟨x, rfl, hz⟩, hb⟩
      · exact absurd ⟨N, c, h8, zc, es⟩ no
    · rintro e w'' ⟨⟨n1, c1, x, B, h1, z1, e1, rfl, hz⟩ | ⟨no, -⟩, hb⟩
      · obtain ⟨rfl, rfl⟩ := zprint_inj h8 h1 zc z1 (es.symm.trans e1)
        exact ⟨⟨x, B, rfl, hz⟩, hb.out⟩
      · exact absurd ⟨N, c, h8, zc, es⟩ no
  · refine .inl ⟨fun w' hp he => (PP w' hp he).mono ?_, fun w' hp => (rparseZ_any S w' hup hp).mono ?_⟩
    · rintro e w'' ⟨⟨n1, c1, x, h1, z1, e1, rfl, hz⟩ | ⟨no, he⟩, hb⟩
      · exact absurd ⟨n1, c1, h1, z1, e1⟩ ht
      · exact ⟨he, hb⟩
    · rintro e w'' ⟨⟨n1, c1, x, B, h1, z1, e1, rfl, hz⟩ | ⟨no, he⟩, hb⟩
      · exact absurd ⟨n1, c1, h1, z1, e1⟩ ht
      · exact ⟨he, hb.out⟩
/-- The cells of two zones that are one. -/
theorem zc_32 {n m : Nat} {c : Row} (hn : n ≤ 8) (hm : m = (n + 1) * (n + 1)) (h : ZC n m c) : C32 c := by
  rcases h with rfl | ⟨p, hp⟩
  · intro k
    show -2147483648 ≤ (0 : Int) ∧ (0 : Int) ≤ 2147483647
    omega
  · exact zoneR_32 (told_zone hn hm hp)

theorem same_b {P : Program} {f : Nat} {a : Array Value} {w : World} {v : Ending} (h : Calls P f a w fun e w' => e = v ∧ w' = w) : Calls P f a w fun e w' => e = v ∧ Below w.heap.size w w' := h.mono fun e w' ⟨h1, h2⟩ => ⟨h1, by rw [h2]; exact Below.refl _ _⟩
theorem drew_b {P : Program} {f : Nat} {a : Array Value} {w : World} {v : Ending} (h : Calls P f a w fun e w' => e = v ∧ ∃ k, w' = w.drewN k) : Calls P f a w fun e w' => e = v ∧ Below w.heap.size w w' := h.mono fun e w' ⟨h1, k, h2⟩ => ⟨h1, by rw [h2]; exact below_drewN (Below.refl _ _) k⟩
theorem row_past {w w' : World} {g : Nat} {l : List Int} (h : RowAt w g 0 l) (hb : Below w.heap.size w w') : RowAt w' g 0 l := fun j hj => kc _ _ hb (h j hj)
theorem cells_say {N m : Nat} {c : Row} (h8 : N ≤ 8) (hm : m = (N + 1) * (N + 1)) :
    Hid (∀ b w', ZoneAt w' b N c → Calls Tryz.prog 14 #[.pointer (some ⟨b, 0, none⟩)] w' fun e w'' => (∃ g cap, e = .returned (.slice (some ⟨g, 0, none⟩) m cap) ∧ RowAt w'' g 0 (listOf c m)) ∧ Below w'.heap.size w' w'') ∧
    Hid (∀ B r w', RZone w' B r N (listOf c m) → Calls Tryz.prog 15 #[.pointer (some ⟨r, 0, none⟩)] w' fun e w'' => (∃ g cap, e = .returned (.slice (some ⟨g, 0, none⟩) m cap) ∧ RowAt w'' g 0 (listOf c m)) ∧ Below w'.heap.size w' w'') ∧
    Hid (∀ g1 g2 c1 c2 w', RowAt w' g1 0 (listOf c m) → RowAt w' g2 0 (listOf c m) → Calls Tryz.prog 13 #[.slice (some ⟨g1, 0, none⟩) m c1, .slice (some ⟨g2, 0, none⟩) m c2] w' fun e w'' => e = .returned (.bool true) ∧ Below w'.heap.size w' w'') := by
  have m81 : m ≤ 81 := by rw [hm]; exact Nat.mul_le_mul (show N + 1 ≤ 9 by omega) (show N + 1 ≤ 9 by omega)
  have mp : 0 < m := by rw [hm]; exact Nat.mul_pos (by omega) (by omega)
  have ll := listOf_len c m
  refine ⟨fun b w' hz => (cells_any b N c w' hz h8).mono ?_, fun B r w' hr => ?_, fun g1 g2 c1 c2 w' h1 h2 => (sameCells_same g1 g2 c1 c2 m _ _ w' h1 h2 ll ll m81).mono ?_⟩
  · rw [← hm]
    rintro e w'' ⟨⟨v, rfl, g, cap, rfl, -, -, hr⟩, hb⟩
    exact ⟨⟨g, cap, by rw [ll], hr⟩, hb⟩
  · obtain ⟨g, cap, r0, r1, -, -, r4⟩ := hr
    rw [ll] at r1
    refine (rcells_own r g N cap m _ w' ll m81 mp r1 r4).mono ?_
    rintro e w'' ⟨⟨g', cap', rfl, -, -, h, -⟩, hb⟩
    exact ⟨⟨g', cap', rfl, h⟩, hb⟩
  · rintro e w'' ⟨rfl, k, rfl⟩
    exact ⟨by rw [sc_of_eq _ _ _ fun j _ => rfl], below_drewN (Below.refl _ _) k⟩
set_option maxHeartbeats 8000000 in
theorem dbmTexts.walk (n : Int) (hn : (Lit.int .i64 n).wf = true) (v : Value) (l : List Int) (S : ByteArray) (hs : S.size ≤ maxLen) (w : World) (ht : Pow w) (he : Errs w) (hS : SliceAt w v l) (wf : ∀ z ∈ l, (Lit.int .i32 z).wf = true) (hby : l.length * 4 ≤ 140737488355328) (hnil : ∀ {c}, v = .slice none 0 c → c = 0) (hlim : S.size ≤ 140737488355328) (hup : S.size ≤ 1048576) :
    Calls Tryz.prog 3 #[.int .i64 n, v, .string S] w fun e w' => e = .returned (.bool true) ∧ Below w.heap.size w w' := by
  have HB := hideD (bothT_any n v l w hS (wf_list wf) (by omega))
  have TS := text_says S hup
  have HP := hideD ht
  have HE := hideD he
  clear hS wf hby hnil hlim hup ht he hs hn
  go_enter Tryz.func3, Tryz.ntmps3
  go_wp2_with fail
  refine HB.out.mono ?_
  rintro e w1 ⟨ho, hb1⟩
  have B_1 := hideD hb1
  clear HB hb1
  rcases ho with rfl | ⟨N, c, b, r, rfl, h8, rfl, hz, hr, zc, c32⟩
  · rcases TS with ⟨TP, TR⟩ | ⟨N', c', h8', zc', eS, TP, TR⟩
    · as_aux_lemma =>
        have HC2 := hideD (TP.out w1 (pow_later HP.out B_1.out) (errs_later HE.out B_1.out))
        go_wp2_with fail
        refine HC2.out.mono ?_
        rintro e w2 ⟨rfl, hb2⟩
        have B_2 := hideD (beyondD B_1.out hb2)
        clear HC2 hb2 B_1
        have HC3 := hideD (TR.out w2 (pow_later HP.out B_2.out))
        go_wp2_with fail
        refine HC3.out.mono ?_
        rintro e w3 ⟨rfl, hb3⟩
        have B_3 := hideD (beyondD B_2.out hb3)
        clear HC3 hb3 B_2
        have HC4 := hideD (live3_any w3)
        go_wp2_with fail
        refine HC4.out.mono ?_
        rintro e w4 ⟨rfl, hb4⟩
        have B_4 := hideD (beyondD B_3.out hb4)
        clear HC4 hb4 B_3
        have HC5 := hideD ((same_b (print_nil w4)))
        go_wp2_with fail
        refine HC5.out.mono ?_
        rintro e w5 ⟨rfl, hb5⟩
        have B_5 := hideD (beyondD B_4.out hb5)
        clear HC5 hb5 B_4
        have HC6 := hideD ((same_b (rprint_nil w5)))
        go_wp2_with fail
        refine HC6.out.mono ?_
        rintro e w6 ⟨rfl, hb6⟩
        have B_6 := hideD (beyondD B_5.out hb6)
        clear HC6 hb6 B_5
        have HC7 := hideD ((same_b (zkey_nil w6)))
        go_wp2_with fail
        refine HC7.out.mono ?_
        rintro e w7 ⟨rfl, hb7⟩
        have B_7 := hideD (beyondD B_6.out hb7)
        clear HC7 hb7 B_6
        have HC8 := hideD ((same_b (rkey_nil w7)))
        go_wp2_with fail
        refine HC8.out.mono ?_
        rintro e w8 ⟨rfl, hb8⟩
        have B_8 := hideD (beyondD B_7.out hb8)
        clear HC8 hb8 B_7
        have HC9 := hideD ((drew_b (mem_nil w8)))
        go_wp2_with fail
        refine HC9.out.mono ?_
        rintro e w9 ⟨rfl, hb9⟩
        have B_9 := hideD (beyondD B_8.out hb9)
        clear HC9 hb9 B_8
        have HC10 := hideD ((same_b (zcells_nil w9)))
        go_wp2_with fail
        refine HC10.out.mono ?_
        rintro e w10 ⟨rfl, hb10⟩
        have B_10 := hideD (beyondD B_9.out hb10)
        clear HC10 hb10 B_9
        have HC11 := hideD ((same_b (rcells_nil w10)))
        go_wp2_with fail
        refine HC11.out.mono ?_
        rintro e w11 ⟨rfl, hb11⟩
        have B_11 := hideD (beyondD B_10.out hb11)
        clear HC11 hb11 B_10
        have HC12 := hideD ((drew_b (same_nil w11)))
        go_wp2_with fail
        refine HC12.out.mono ?_
        rintro e w12 ⟨rfl, hb12⟩
        have B_12 := hideD (beyondD B_11.out hb12)
        clear HC12 hb12 B_11
        go_wp2_with fail
        go_ret
        exact ⟨rfl, B_12.out⟩
    · obtain ⟨T1, T2, T3⟩ := cells_say (c := c') h8' rfl
      obtain ⟨Z1, eZ, T4, -⟩ := zone_says h8' zc' (zc_32 h8' rfl zc')
      obtain rfl : Z1 = S := eZ.out.trans eS.symm
      generalize (N' + 1) * (N' + 1) = m' at *
      clear eZ eS zc' h8'
      as_aux_lemma =>
        have HC2 := hideD (TP.out w1 (pow_later HP.out B_1.out) (errs_later HE.out B_1.out))
        go_wp2_with fail
        refine HC2.out.mono ?_
        rintro e w2 ⟨⟨x, rfl, hx⟩, hb2⟩
        have B_2 := hideD (beyondD B_1.out hb2)
        have X_2 := hideD (hx)
        clear HC2 hb2 B_1
        clear hx
        have HC3 := hideD (TR.out w2 (pow_later HP.out B_2.out))
        go_wp2_with fail
        refine HC3.out.mono ?_
        rintro e w3 ⟨⟨y, By, rfl, hy⟩, hb3⟩
        have B_3 := hideD (beyondD B_2.out hb3)
        have X_3 := hideD (X_2.out.past hb3)
        have Y_3 := hideD (hy)
        clear HC3 hb3 B_2 X_2
        clear hy
        have HC4 := hideD (live3_any w3)
        go_wp2_with fail
        refine HC4.out.mono ?_
        rintro e w4 ⟨rfl, hb4⟩
        have B_4 := hideD (beyondD B_3.out hb4)
        have X_4 := hideD (X_3.out.past hb4)
        have Y_4 := hideD (Y_3.out.past hb4)
        clear HC4 hb4 B_3 X_3 Y_3
        have HC5 := hideD ((same_b (print_nil w4)))
        go_wp2_with fail
        refine HC5.out.mono ?_
        rintro e w5 ⟨rfl, hb5⟩
        have B_5 := hideD (beyondD B_4.out hb5)
        have X_5 := hideD (X_4.out.past hb5)
        have Y_5 := hideD (Y_4.out.past hb5)
        clear HC5 hb5 B_4 X_4 Y_4
        have HC6 := hideD ((same_b (rprint_nil w5)))
        go_wp2_with fail
        refine HC6.out.mono ?_
        rintro e w6 ⟨rfl, hb6⟩
        have B_6 := hideD (beyondD B_5.out hb6)
        have X_6 := hideD (X_5.out.past hb6)
        have Y_6 := hideD (Y_5.out.past hb6)
        clear HC6 hb6 B_5 X_5 Y_5
        have HC7 := hideD ((same_b (zkey_nil w6)))
        go_wp2_with fail
        refine HC7.out.mono ?_
        rintro e w7 ⟨rfl, hb7⟩
        have B_7 := hideD (beyondD B_6.out hb7)
        have X_7 := hideD (X_6.out.past hb7)
        have Y_7 := hideD (Y_6.out.past hb7)
        clear HC7 hb7 B_6 X_6 Y_6
        have HC8 := hideD ((same_b (rkey_nil w7)))
        go_wp2_with fail
        refine HC8.out.mono ?_
        rintro e w8 ⟨rfl, hb8⟩
        have B_8 := hideD (beyondD B_7.out hb8)
        have X_8 := hideD (X_7.out.past hb8)
        have Y_8 := hideD (Y_7.out.past hb8)
        clear HC8 hb8 B_7 X_7 Y_7
        have HC9 := hideD ((drew_b (mem_nil w8)))
        go_wp2_with fail
        refine HC9.out.mono ?_
        rintro e w9 ⟨rfl, hb9⟩
        have B_9 := hideD (beyondD B_8.out hb9)
        have X_9 := hideD (X_8.out.past hb9)
        have Y_9 := hideD (Y_8.out.past hb9)
        clear HC9 hb9 B_8 X_8 Y_8
        have HC10 := hideD (T1.out x w9 X_9.out)
        go_wp2_with fail
        refine HC10.out.mono ?_
        rintro e w10 ⟨⟨g1, cap1, rfl, hr1⟩, hb10⟩
        have B_10 := hideD (beyondD B_9.out hb10)
        have X_10 := hideD (X_9.out.past hb10)
        have Y_10 := hideD (Y_9.out.past hb10)
        have C1_10 := hideD (hr1)
        clear HC10 hb10 B_9 X_9 Y_9
        clear hr1
        have HC11 := hideD (T2.out _ y w10 Y_10.out)
        go_wp2_with fail
        refine HC11.out.mono ?_
        rintro e w11 ⟨⟨g2, cap2, rfl, hr2⟩, hb11⟩
        have B_11 := hideD (beyondD B_10.out hb11)
        have X_11 := hideD (X_10.out.past hb11)
        have Y_11 := hideD (Y_10.out.past hb11)
        have C1_11 := hideD (row_past C1_10.out hb11)
        have C2_11 := hideD (hr2)
        clear HC11 hb11 B_10 X_10 Y_10 C1_10
        clear hr2
        have HC12 := hideD (T3.out g1 g2 cap1 cap2 w11 C1_11.out C2_11.out)
        go_wp2_with fail
        refine HC12.out.mono ?_
        rintro e w12 ⟨rfl, hb12⟩
        have B_12 := hideD (beyondD B_11.out hb12)
        have X_12 := hideD (X_11.out.past hb12)
        have Y_12 := hideD (Y_11.out.past hb12)
        have C1_12 := hideD (row_past C1_11.out hb12)
        have C2_12 := hideD (row_past C2_11.out hb12)
        clear HC12 hb12 B_11 X_11 Y_11 C1_11 C2_11
        clear C1_12 C2_12
        have HC13 := hideD (T4.out x w12 X_12.out (pow_later HP.out B_12.out))
        go_wp2_with fail
        refine HC13.out.mono ?_
        rintro e w13 ⟨rfl, hb13⟩
        have B_13 := hideD (beyondD B_12.out hb13)
        have X_13 := hideD (X_12.out.past hb13)
        have Y_13 := hideD (Y_12.out.past hb13)
        clear HC13 hb13 B_12 X_12 Y_12
        go_wp2_with fail
        go_ret
        exact ⟨rfl, B_13.out⟩
  · obtain ⟨Z0, -, S1, S2, S3, S4, S5, S6, S7⟩ := zone_says h8 zc c32
    have Z_1 := hideD hz
    have R_1 := hideD hr
    clear zc c32 h8 hz hr
    generalize (N + 1) * (N + 1) = m at *
    rcases TS with ⟨TP, TR⟩ | ⟨N', c', h8', zc', eS, TP, TR⟩
    · as_aux_lemma =>
        have HC2 := hideD (TP.out w1 (pow_later HP.out B_1.out) (errs_later HE.out B_1.out))
        go_wp2_with fail
        refine HC2.out.mono ?_
        rintro e w2 ⟨rfl, hb2⟩
        have B_2 := hideD (beyondD B_1.out hb2)
        have Z_2 := hideD (Z_1.out.past hb2)
        have R_2 := hideD (R_1.out.past hb2)
        clear HC2 hb2 B_1 Z_1 R_1
        have HC3 := hideD (TR.out w2 (pow_later HP.out B_2.out))
        go_wp2_with fail
        refine HC3.out.mono ?_
        rintro e w3 ⟨rfl, hb3⟩
        have B_3 := hideD (beyondD B_2.out hb3)
        have Z_3 := hideD (Z_2.out.past hb3)
        have R_3 := hideD (R_2.out.past hb3)
        clear HC3 hb3 B_2 Z_2 R_2
        have HC4 := hideD (live3_any w3)
        go_wp2_with fail
        refine HC4.out.mono ?_
        rintro e w4 ⟨rfl, hb4⟩
        have B_4 := hideD (beyondD B_3.out hb4)
        have Z_4 := hideD (Z_3.out.past hb4)
        have R_4 := hideD (R_3.out.past hb4)
        clear HC4 hb4 B_3 Z_3 R_3
        have HC5 := hideD (S1.out b w4 Z_4.out (pow_later HP.out B_4.out))
        go_wp2_with fail
        refine HC5.out.mono ?_
        rintro e w5 ⟨rfl, hb5⟩
        have B_5 := hideD (beyondD B_4.out hb5)
        have Z_5 := hideD (Z_4.out.past hb5)
        have R_5 := hideD (R_4.out.past hb5)
        clear HC5 hb5 B_4 Z_4 R_4
        have HC6 := hideD (S2.out _ r w5 R_5.out (pow_later HP.out B_5.out))
        go_wp2_with fail
        refine HC6.out.mono ?_
        rintro e w6 ⟨rfl, hb6⟩
        have B_6 := hideD (beyondD B_5.out hb6)
        have Z_6 := hideD (Z_5.out.past hb6)
        have R_6 := hideD (R_5.out.past hb6)
        clear HC6 hb6 B_5 Z_5 R_5
        have HC7 := hideD (S4.out b w6 Z_6.out)
        go_wp2_with fail
        refine HC7.out.mono ?_
        rintro e w7 ⟨⟨v1, rfl, ho1⟩, hb7⟩
        have B_7 := hideD (beyondD B_6.out hb7)
        have Z_7 := hideD (Z_6.out.past hb7)
        have R_7 := hideD (R_6.out.past hb7)
        have K1_7 := hideD (ho1)
        clear HC7 hb7 B_6 Z_6 R_6
        clear ho1
        have HC8 := hideD (S5.out _ r w7 R_7.out)
        go_wp2_with fail
        refine HC8.out.mono ?_
        rintro e w8 ⟨⟨v2, rfl, ho2⟩, hb8⟩
        have B_8 := hideD (beyondD B_7.out hb8)
        have Z_8 := hideD (Z_7.out.past hb8)
        have R_8 := hideD (R_7.out.past hb8)
        have K1_8 := hideD (own_past K1_7.out hb8)
        have K2_8 := hideD (ho2)
        clear HC8 hb8 B_7 Z_7 R_7 K1_7
        clear ho2
        have HC9 := hideD (S6.out _ _ v1 v2 w8 K1_8.out K2_8.out)
        go_wp2_with fail
        refine HC9.out.mono ?_
        rintro e w9 ⟨rfl, hb9⟩
        have B_9 := hideD (beyondD B_8.out hb9)
        have Z_9 := hideD (Z_8.out.past hb9)
        have R_9 := hideD (R_8.out.past hb9)
        have K1_9 := hideD (own_past K1_8.out hb9)
        have K2_9 := hideD (own_past K2_8.out hb9)
        clear HC9 hb9 B_8 Z_8 R_8 K1_8 K2_8
        clear K1_9 K2_9
        have HC10 := hideD ((same_b (zcells_nil w9)))
        go_wp2_with fail
        refine HC10.out.mono ?_
        rintro e w10 ⟨rfl, hb10⟩
        have B_10 := hideD (beyondD B_9.out hb10)
        have Z_10 := hideD (Z_9.out.past hb10)
        have R_10 := hideD (R_9.out.past hb10)
        clear HC10 hb10 B_9 Z_9 R_9
        have HC11 := hideD ((same_b (rcells_nil w10)))
        go_wp2_with fail
        refine HC11.out.mono ?_
        rintro e w11 ⟨rfl, hb11⟩
        have B_11 := hideD (beyondD B_10.out hb11)
        have Z_11 := hideD (Z_10.out.past hb11)
        have R_11 := hideD (R_10.out.past hb11)
        clear HC11 hb11 B_10 Z_10 R_10
        have HC12 := hideD ((drew_b (same_nil w11)))
        go_wp2_with fail
        refine HC12.out.mono ?_
        rintro e w12 ⟨rfl, hb12⟩
        have B_12 := hideD (beyondD B_11.out hb12)
        have Z_12 := hideD (Z_11.out.past hb12)
        have R_12 := hideD (R_11.out.past hb12)
        clear HC12 hb12 B_11 Z_11 R_11
        have HC13 := hideD (S1.out b w12 Z_12.out (pow_later HP.out B_12.out))
        go_wp2_with fail
        refine HC13.out.mono ?_
        rintro e w13 ⟨rfl, hb13⟩
        have B_13 := hideD (beyondD B_12.out hb13)
        have Z_13 := hideD (Z_12.out.past hb13)
        have R_13 := hideD (R_12.out.past hb13)
        clear HC13 hb13 B_12 Z_12 R_12
        have HC14 := hideD (S3.out w13 (pow_later HP.out B_13.out) (errs_later HE.out B_13.out))
        go_wp2_with fail
        refine HC14.out.mono ?_
        rintro e w14 ⟨⟨x2, rfl, hx2⟩, hb14⟩
        have B_14 := hideD (beyondD B_13.out hb14)
        have Z_14 := hideD (Z_13.out.past hb14)
        have R_14 := hideD (R_13.out.past hb14)
        have X2_14 := hideD (hx2)
        clear HC14 hb14 B_13 Z_13 R_13
        clear hx2
        have HC15 := hideD (S7.out x2 b w14 X2_14.out Z_14.out)
        go_wp2_with fail
        refine HC15.out.mono ?_
        rintro e w15 ⟨rfl, hb15⟩
        have B_15 := hideD (beyondD B_14.out hb15)
        have Z_15 := hideD (Z_14.out.past hb15)
        have R_15 := hideD (R_14.out.past hb15)
        have X2_15 := hideD (X2_14.out.past hb15)
        clear HC15 hb15 B_14 Z_14 R_14 X2_14
        go_wp2_with fail
        go_ret
        exact ⟨rfl, B_15.out⟩
    · obtain ⟨T1, T2, T3⟩ := cells_say (c := c') h8' rfl
      obtain ⟨Z1, eZ, T4, -⟩ := zone_says h8' zc' (zc_32 h8' rfl zc')
      obtain rfl : Z1 = S := eZ.out.trans eS.symm
      generalize (N' + 1) * (N' + 1) = m' at *
      clear eZ eS zc' h8'
      as_aux_lemma =>
        have HC2 := hideD (TP.out w1 (pow_later HP.out B_1.out) (errs_later HE.out B_1.out))
        go_wp2_with fail
        refine HC2.out.mono ?_
        rintro e w2 ⟨⟨x, rfl, hx⟩, hb2⟩
        have B_2 := hideD (beyondD B_1.out hb2)
        have Z_2 := hideD (Z_1.out.past hb2)
        have R_2 := hideD (R_1.out.past hb2)
        have X_2 := hideD (hx)
        clear HC2 hb2 B_1 Z_1 R_1
        clear hx
        have HC3 := hideD (TR.out w2 (pow_later HP.out B_2.out))
        go_wp2_with fail
        refine HC3.out.mono ?_
        rintro e w3 ⟨⟨y, By, rfl, hy⟩, hb3⟩
        have B_3 := hideD (beyondD B_2.out hb3)
        have Z_3 := hideD (Z_2.out.past hb3)
        have R_3 := hideD (R_2.out.past hb3)
        have X_3 := hideD (X_2.out.past hb3)
        have Y_3 := hideD (hy)
        clear HC3 hb3 B_2 Z_2 R_2 X_2
        clear hy
        have HC4 := hideD (live3_any w3)
        go_wp2_with fail
        refine HC4.out.mono ?_
        rintro e w4 ⟨rfl, hb4⟩
        have B_4 := hideD (beyondD B_3.out hb4)
        have Z_4 := hideD (Z_3.out.past hb4)
        have R_4 := hideD (R_3.out.past hb4)
        have X_4 := hideD (X_3.out.past hb4)
        have Y_4 := hideD (Y_3.out.past hb4)
        clear HC4 hb4 B_3 Z_3 R_3 X_3 Y_3
        have HC5 := hideD (S1.out b w4 Z_4.out (pow_later HP.out B_4.out))
        go_wp2_with fail
        refine HC5.out.mono ?_
        rintro e w5 ⟨rfl, hb5⟩
        have B_5 := hideD (beyondD B_4.out hb5)
        have Z_5 := hideD (Z_4.out.past hb5)
        have R_5 := hideD (R_4.out.past hb5)
        have X_5 := hideD (X_4.out.past hb5)
        have Y_5 := hideD (Y_4.out.past hb5)
        clear HC5 hb5 B_4 Z_4 R_4 X_4 Y_4
        have HC6 := hideD (S2.out _ r w5 R_5.out (pow_later HP.out B_5.out))
        go_wp2_with fail
        refine HC6.out.mono ?_
        rintro e w6 ⟨rfl, hb6⟩
        have B_6 := hideD (beyondD B_5.out hb6)
        have Z_6 := hideD (Z_5.out.past hb6)
        have R_6 := hideD (R_5.out.past hb6)
        have X_6 := hideD (X_5.out.past hb6)
        have Y_6 := hideD (Y_5.out.past hb6)
        clear HC6 hb6 B_5 Z_5 R_5 X_5 Y_5
        have HC7 := hideD (S4.out b w6 Z_6.out)
        go_wp2_with fail
        refine HC7.out.mono ?_
        rintro e w7 ⟨⟨v1, rfl, ho1⟩, hb7⟩
        have B_7 := hideD (beyondD B_6.out hb7)
        have Z_7 := hideD (Z_6.out.past hb7)
        have R_7 := hideD (R_6.out.past hb7)
        have X_7 := hideD (X_6.out.past hb7)
        have Y_7 := hideD (Y_6.out.past hb7)
        have K1_7 := hideD (ho1)
        clear HC7 hb7 B_6 Z_6 R_6 X_6 Y_6
        clear ho1
        have HC8 := hideD (S5.out _ r w7 R_7.out)
        go_wp2_with fail
        refine HC8.out.mono ?_
        rintro e w8 ⟨⟨v2, rfl, ho2⟩, hb8⟩
        have B_8 := hideD (beyondD B_7.out hb8)
        have Z_8 := hideD (Z_7.out.past hb8)
        have R_8 := hideD (R_7.out.past hb8)
        have X_8 := hideD (X_7.out.past hb8)
        have Y_8 := hideD (Y_7.out.past hb8)
        have K1_8 := hideD (own_past K1_7.out hb8)
        have K2_8 := hideD (ho2)
        clear HC8 hb8 B_7 Z_7 R_7 X_7 Y_7 K1_7
        clear ho2
        have HC9 := hideD (S6.out _ _ v1 v2 w8 K1_8.out K2_8.out)
        go_wp2_with fail
        refine HC9.out.mono ?_
        rintro e w9 ⟨rfl, hb9⟩
        have B_9 := hideD (beyondD B_8.out hb9)
        have Z_9 := hideD (Z_8.out.past hb9)
        have R_9 := hideD (R_8.out.past hb9)
        have X_9 := hideD (X_8.out.past hb9)
        have Y_9 := hideD (Y_8.out.past hb9)
        have K1_9 := hideD (own_past K1_8.out hb9)
        have K2_9 := hideD (own_past K2_8.out hb9)
        clear HC9 hb9 B_8 Z_8 R_8 X_8 Y_8 K1_8 K2_8
        clear K1_9 K2_9
        have HC10 := hideD (T1.out x w9 X_9.out)
        go_wp2_with fail
        refine HC10.out.mono ?_
        rintro e w10 ⟨⟨g1, cap1, rfl, hr1⟩, hb10⟩
        have B_10 := hideD (beyondD B_9.out hb10)
        have Z_10 := hideD (Z_9.out.past hb10)
        have R_10 := hideD (R_9.out.past hb10)
        have X_10 := hideD (X_9.out.past hb10)
        have Y_10 := hideD (Y_9.out.past hb10)
        have C1_10 := hideD (hr1)
        clear HC10 hb10 B_9 Z_9 R_9 X_9 Y_9
        clear hr1
        have HC11 := hideD (T2.out _ y w10 Y_10.out)
        go_wp2_with fail
        refine HC11.out.mono ?_
        rintro e w11 ⟨⟨g2, cap2, rfl, hr2⟩, hb11⟩
        have B_11 := hideD (beyondD B_10.out hb11)
        have Z_11 := hideD (Z_10.out.past hb11)
        have R_11 := hideD (R_10.out.past hb11)
        have X_11 := hideD (X_10.out.past hb11)
        have Y_11 := hideD (Y_10.out.past hb11)
        have C1_11 := hideD (row_past C1_10.out hb11)
        have C2_11 := hideD (hr2)
        clear HC11 hb11 B_10 Z_10 R_10 X_10 Y_10 C1_10
        clear hr2
        have HC12 := hideD (T3.out g1 g2 cap1 cap2 w11 C1_11.out C2_11.out)
        go_wp2_with fail
        refine HC12.out.mono ?_
        rintro e w12 ⟨rfl, hb12⟩
        have B_12 := hideD (beyondD B_11.out hb12)
        have Z_12 := hideD (Z_11.out.past hb12)
        have R_12 := hideD (R_11.out.past hb12)
        have X_12 := hideD (X_11.out.past hb12)
        have Y_12 := hideD (Y_11.out.past hb12)
        have C1_12 := hideD (row_past C1_11.out hb12)
        have C2_12 := hideD (row_past C2_11.out hb12)
        clear HC12 hb12 B_11 Z_11 R_11 X_11 Y_11 C1_11 C2_11
        clear C1_12 C2_12
        have HC13 := hideD (S1.out b w12 Z_12.out (pow_later HP.out B_12.out))
        go_wp2_with fail
        refine HC13.out.mono ?_
        rintro e w13 ⟨rfl, hb13⟩
        have B_13 := hideD (beyondD B_12.out hb13)
        have Z_13 := hideD (Z_12.out.past hb13)
        have R_13 := hideD (R_12.out.past hb13)
        have X_13 := hideD (X_12.out.past hb13)
        have Y_13 := hideD (Y_12.out.past hb13)
        clear HC13 hb13 B_12 Z_12 R_12 X_12 Y_12
        have HC14 := hideD (S3.out w13 (pow_later HP.out B_13.out) (errs_later HE.out B_13.out))
        go_wp2_with fail
        refine HC14.out.mono ?_
        rintro e w14 ⟨⟨x2, rfl, hx2⟩, hb14⟩
        have B_14 := hideD (beyondD B_13.out hb14)
        have Z_14 := hideD (Z_13.out.past hb14)
        have R_14 := hideD (R_13.out.past hb14)
        have X_14 := hideD (X_13.out.past hb14)
        have Y_14 := hideD (Y_13.out.past hb14)
        have X2_14 := hideD (hx2)
        clear HC14 hb14 B_13 Z_13 R_13 X_13 Y_13
        clear hx2
        have HC15 := hideD (S7.out x2 b w14 X2_14.out Z_14.out)
        go_wp2_with fail
        refine HC15.out.mono ?_
        rintro e w15 ⟨rfl, hb15⟩
        have B_15 := hideD (beyondD B_14.out hb15)
        have Z_15 := hideD (Z_14.out.past hb15)
        have R_15 := hideD (R_14.out.past hb15)
        have X_15 := hideD (X_14.out.past hb15)
        have Y_15 := hideD (Y_14.out.past hb15)
        have X2_15 := hideD (X2_14.out.past hb15)
        clear HC15 hb15 B_14 Z_14 R_14 X_14 Y_14 X2_14
        have HC16 := hideD (T4.out x w15 X_15.out (pow_later HP.out B_15.out))
        go_wp2_with fail
        refine HC16.out.mono ?_
        rintro e w16 ⟨rfl, hb16⟩
        have B_16 := hideD (beyondD B_15.out hb16)
        have Z_16 := hideD (Z_15.out.past hb16)
        have R_16 := hideD (R_15.out.past hb16)
        have X_16 := hideD (X_15.out.past hb16)
        have Y_16 := hideD (Y_15.out.past hb16)
        have X2_16 := hideD (X2_15.out.past hb16)
        clear HC16 hb16 B_15 Z_15 R_15 X_15 Y_15 X2_15
        go_wp2_with fail
        go_ret
        exact ⟨rfl, B_16.out⟩
end Go.Proofs.YtdkolgndebkloaaGreatDoor
