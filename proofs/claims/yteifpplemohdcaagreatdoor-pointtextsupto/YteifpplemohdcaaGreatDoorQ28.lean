/-
  The document's Parse of valuations, walked.
-/
import Derived.Test.YteifpplemohdcaaGreatDoorQ27
namespace Go.Proofs.YteifpplemohdcaaGreatDoor
open Go.RowKit Go.Shelf
set_option linter.unusedVariables false
set_option maxRecDepth 100000
theorem yparse_nil (s : ByteArray) (w : World) (h : s.toList.isEmpty = true) (hR : Hid (Calls Tryz.prog 16 #[.slice none 0 0] w fun e w' => e = .returned (.bool true) ∧ Below w.heap.size w w')) (hP : Hid (∀ w', Below w.heap.size w w' → Calls Tryz.prog 9 #[.slice none 0 0] w' fun e w'' => e = .returned (.string ⟨#[]⟩) ∧ Below w'.heap.size w' w'')) :
    Calls Tryz.prog 6 #[.string s] w fun e w' => e = .returned (.tuple #[.slice none 0 0, .int .i64 0]) ∧ Below w.heap.size w w' := by
  have hs : s = ⟨#[]⟩ := by
    have := nil_text s h
    rw [bytes_self s, this]
  subst hs
  clear h
  go_enter Tryz.func6, Tryz.ntmps6
  go_wp2_with fail
  go_loopw [4, 5, 6] (fun v a i wr => v = .slice none 0 0 ∧ i = .int .i64 0 ∧ wr = w) (fun _ _ _ _ => 1)
  case atStart => exact ⟨rfl, rfl, rfl⟩
  case round =>
    obtain ⟨rfl, rfl, rfl⟩ := hrel
    go_wp2_with fail
    have X := hR.out
    with_reducible refine X.mono ?_
    clear X
    rintro e w1 ⟨rfl, hb⟩
    have B1 := hideR hb
    have HP1 := hideR (hP.out _ hb)
    clear hb hR hP
    go_wp2_with fail
    have X := HP1.out
    with_reducible refine X.mono ?_
    clear X
    rintro e w2 ⟨rfl, hb⟩
    have B2 := hideR (beyond B1.out hb)
    clear hb HP1
    go_wp2_with fail
    go_ret2
    exact ⟨rfl, B2.out⟩
set_option maxHeartbeats 4000000 in
theorem yparse_some (s : ByteArray) (w : World) (h : s.toList.isEmpty = false) (hs : s.size ≤ 1048576) (ht : Pow w) :
    Calls Tryz.prog 6 #[.string s] w fun e w' => PtOut w' w.heap.size s.data.toList e ∧ Below w.heap.size w w' := by
  obtain ⟨i0, hi, hz0, hz1, hz2⟩ := info_parts info_rat
  have HNE := hideR (not_nil_text s h)
  have GO := hideR (get_opt s)
  have HT := hideR ht
  have HCUT := hideR (cut_of s)
  have HY := hideR (fun A I W (hp : Pow W) (hI : I ≤ s.size) => yparse_any (s.extract A I) W (by simp; omega) hp)
  have LN : Hid (s.data.toList.length = s.size) := by show _ = _; simp
  have n0 : (s.size : Int) ≤ 1048576 := by omega
  clear ht hs
  obtain ⟨l, el⟩ : ∃ l, l = s.data.toList := ⟨_, rfl⟩
  have EL2 := hideR el
  rw [← el] at HNE GO LN
  clear el
  go_enter Tryz.func6, Tryz.ntmps6
  go_wp2_with fail
  go_loopw [4, 5, 6] (fun v a i wr => ∃ (done : List (List UInt8)) (K A I : Nat) (u : Value), v = u ∧ a = .int .i64 (A : Int) ∧ i = .int .i64 (I : Int) ∧ I ≤ s.size + 1 ∧ Hid (PSt l done A I) ∧ Hid (K = done.length) ∧ Hid (wr.ownsRow w.heap.size 33 2 u K (ratCk (ratsOf done) K)) ∧ Hid (Below w.heap.size w wr)) (fun _ _ i _ => s.size + 1 - (intOf i).toNat)
  case atStart => exact ⟨[], 0, 0, 0, _, rfl, rfl, rfl, Nat.zero_le _, pst_start l, rfl, World.ownsRow_nil _ _ _ _, Below.refl _ _⟩
  case round =>
    obtain ⟨done, K, A, I, v, hv, rfl, rfl, hI, P, HK, O, B⟩ := hrel
    replace hv := hv.symm
    subst hv
    by_cases c : I ≤ s.size
    · have i0' : (0 : Int) ≤ (I : Int) := by omega
      have i1 : (I : Int) ≤ (s.size : Int) := by omega
      have hA := (pst_in P.out (by rw [LN.out]; exact c)).1
      have i2 : (0 : Int) ≤ (A : Int) := by omega
      have i3 : (A : Int) ≤ (I : Int) := by omega
      by_cases t : ∃ h : I < s.size, (s[I].toNat : Int) ≠ 32
      · obtain ⟨c1, x⟩ := t
        have i4 : (I : Int) < (s.size : Int) := by omega
        have x1 : ((s[I].toNat : Int) != 32) = true := by simpa using x
        have P2 : Hid (PSt l done A (I + 1)) := pst_skip P.out (by rw [LN.out]; exact c1) s[I] (GO.out I c1) (fun e => by rw [e] at x; exact x rfl)
        clear x P hA
        go_wp2_with fail
        go_roundw
        case rel => exact ⟨done, K, A, I + 1, v, rfl, rfl, by go_num, by omega, P2, HK, O, B⟩
        case measure => simp [intOf]; omega
      · have hx : Hid (I < l.length → l[I]? = some 32) := fun h => by
          rw [LN.out] at h
          by_cases x : (s[I].toNat : Int) = 32
          · rw [GO.out I h]
            congr 1
            apply UInt8.toNat_inj.1
            have : (32 : UInt8).toNat = 32 := rfl
            omega
          · exact absurd ⟨h, x⟩ t
        by_cases c1 : I < s.size
        · have i4 : (I : Int) < (s.size : Int) := by omega
          have x : (s[I].toNat : Int) = 32 := by
            by_cases y : (s[I].toNat : Int) = 32
            · exact y
            · exact absurd ⟨c1, y⟩ t
          have x1 : ((s[I].toNat : Int) != 32) = false := by rw [x]; rfl
          clear x t
          have HL := hideR (HY.out A I wr (pow_later HT.out B.out) c)
          rw [HCUT.out A I, ← EL2.out] at HL
          have P2 := hideR (fun h => pst_piece P.out (by rw [LN.out]; exact c) hx.out h)
          have PB := hideR (fun h => pst_bad P.out (by rw [LN.out]; exact c) hx.out h)
          have PE := hideR (parse_err ((l.drop A).take (I - A)))
          have PL := hideR (pst_len P.out)
          have RN := hideR (ratCk_snoc done ((l.drop A).take (I - A)))
          generalize (l.drop A).take (I - A) = p at HL P2 PB PE RN
          obtain ⟨T, eT⟩ : ∃ T, T = parseT p := ⟨_, rfl⟩
          have HT' := hideR eT
          rw [← eT] at HL PE RN
          clear eT hx P
          generalize hpc : s.extract A I = pc at HL
          obtain ⟨t0, t1, t2⟩ := T
          go_wp2_with fail
          refine HL.out.mono ?_
          clear hpc
          rintro e w1 ⟨rfl, hb⟩
          have O1 : w1.ownsRow w.heap.size 33 2 v K (ratCk (ratsOf done) K) := World.ownsRow.kept O.out (grown_below hb (Nat.le_refl _)) (by cases v.ownBlock <;> simp)
          have B1 := hideR (beyond B.out hb)
          have hK : K ≤ 1048577 := by have := PL.out; have := LN.out; have := HK.out; omega
          clear hb HL O B
          by_cases tz : t2 = 0
          · subst tz
            go_wp2_with (at_builtin; refine wp_app_any _ rfl _ _ 22 rfl w.heap.size 33 i0 (.agg #[.int .i64 0, .int .i64 0]) 2 16 Tryz.underlying22 hi hz0 hz1 hz2 rfl (by decide) _ K _ rfl ((O1.alloc _).alloc _) _ 1 1 [.int .i64 t0, .int .i64 t1] rfl (fun e => by cases e) rfl (fun d e j u h => two_news _ _ _ _ d (by rw [← e]; simp) j u h) (by simp [Value.oneCell']) (by unfold maxLen; omega) (by omega) (by have := B1.out.size; simp; omega) ?_; intro v' w2 hown hgrow)
            have B2 : Hid (Below w.heap.size w w2) := by
              have h2 := beyond B1.out (two w1 (.cells #[.int .i64 t0, .int .i64 t1] 33) (.cells #[.int .i64 t0, .int .i64 t1] 33))
              rcases hgrow with e | hg
              · rw [e]; exact h2
              · exact h2.grown hg h2.size (fun k hk => own_ge O1 k hk)
            have O2 : Hid (w2.ownsRow w.heap.size 33 2 v' (K + 1) (ratCk (ratsOf (done ++ [p])) (K + 1))) := by
              show w2.ownsRow _ _ _ _ _ _
              rw [HK.out, RN.out, ← HK.out]
              exact hown
            have P3 := hideR (P2.out (by rw [← HT'.out]))
            have HK2 : Hid (K + 1 = (done ++ [p]).length) := by show _ = _; rw [HK.out]; simp
            clear hown hgrow O1 B1 RN P2 PB PE HT' PL hK
            go_wp2_with fail
            go_roundw
            case rel => exact ⟨done ++ [p], K + 1, I + 1, I + 1, v', rfl, by go_num, by go_num, by omega, P3, HK2, O2, B2⟩
            case measure => simp [intOf]; omega
          · have e7 : t2 = 7 := PE.out tz
            subst e7
            have NG := hideR (PB.out (by rw [← HT'.out]; exact tz))
            have B2 := hideR (beyond B1.out (single w1 (.cells #[.int .i64 t0, .int .i64 t1] 33)))
            clear O1 B1 RN P2 PB PE HT' PL hK tz
            go_wp2_with fail
            go_ret2
            exact ⟨.inr (.inl ⟨by rw [← EL2.out]; exact HNE.out, by rw [← EL2.out]; exact NG.out, rfl⟩), B2.out⟩
        · have i4 : ¬ (I : Int) < (s.size : Int) := by omega
          clear t
          have HL := hideR (HY.out A I wr (pow_later HT.out B.out) c)
          rw [HCUT.out A I, ← EL2.out] at HL
          have P2 := hideR (fun h => pst_piece P.out (by rw [LN.out]; exact c) hx.out h)
          have PB := hideR (fun h => pst_bad P.out (by rw [LN.out]; exact c) hx.out h)
          have PE := hideR (parse_err ((l.drop A).take (I - A)))
          have PL := hideR (pst_len P.out)
          have RN := hideR (ratCk_snoc done ((l.drop A).take (I - A)))
          generalize (l.drop A).take (I - A) = p at HL P2 PB PE RN
          obtain ⟨T, eT⟩ : ∃ T, T = parseT p := ⟨_, rfl⟩
          have HT' := hideR eT
          rw [← eT] at HL PE RN
          clear eT hx P
          generalize hpc : s.extract A I = pc at HL
          obtain ⟨t0, t1, t2⟩ := T
          go_wp2_with fail
          refine HL.out.mono ?_
          clear hpc
          rintro e w1 ⟨rfl, hb⟩
          have O1 : w1.ownsRow w.heap.size 33 2 v K (ratCk (ratsOf done) K) := World.ownsRow.kept O.out (grown_below hb (Nat.le_refl _)) (by cases v.ownBlock <;> simp)
          have B1 := hideR (beyond B.out hb)
          have hK : K ≤ 1048577 := by have := PL.out; have := LN.out; have := HK.out; omega
          clear hb HL O B
          by_cases tz : t2 = 0
          · subst tz
            go_wp2_with (at_builtin; refine wp_app_any _ rfl _ _ 22 rfl w.heap.size 33 i0 (.agg #[.int .i64 0, .int .i64 0]) 2 16 Tryz.underlying22 hi hz0 hz1 hz2 rfl (by decide) _ K _ rfl ((O1.alloc _).alloc _) _ 1 1 [.int .i64 t0, .int .i64 t1] rfl (fun e => by cases e) rfl (fun d e j u h => two_news _ _ _ _ d (by rw [← e]; simp) j u h) (by simp [Value.oneCell']) (by unfold maxLen; omega) (by omega) (by have := B1.out.size; simp; omega) ?_; intro v' w2 hown hgrow)
            have B2 : Hid (Below w.heap.size w w2) := by
              have h2 := beyond B1.out (two w1 (.cells #[.int .i64 t0, .int .i64 t1] 33) (.cells #[.int .i64 t0, .int .i64 t1] 33))
              rcases hgrow with e | hg
              · rw [e]; exact h2
              · exact h2.grown hg h2.size (fun k hk => own_ge O1 k hk)
            have O2 : Hid (w2.ownsRow w.heap.size 33 2 v' (K + 1) (ratCk (ratsOf (done ++ [p])) (K + 1))) := by
              show w2.ownsRow _ _ _ _ _ _
              rw [HK.out, RN.out, ← HK.out]
              exact hown
            have P3 := hideR (P2.out (by rw [← HT'.out]))
            have HK2 : Hid (K + 1 = (done ++ [p]).length) := by show _ = _; rw [HK.out]; simp
            clear hown hgrow O1 B1 RN P2 PB PE HT' PL hK
            go_wp2_with fail
            go_roundw
            case rel => exact ⟨done ++ [p], K + 1, I + 1, I + 1, v', rfl, by go_num, by go_num, by omega, P3, HK2, O2, B2⟩
            case measure => simp [intOf]; omega
          · have e7 : t2 = 7 := PE.out tz
            subst e7
            have NG := hideR (PB.out (by rw [← HT'.out]; exact tz))
            have B2 := hideR (beyond B1.out (single w1 (.cells #[.int .i64 t0, .int .i64 t1] 33)))
            clear O1 B1 RN P2 PB PE HT' PL hK tz
            go_wp2_with fail
            go_ret2
            exact ⟨.inr (.inl ⟨by rw [← EL2.out]; exact HNE.out, by rw [← EL2.out]; exact NG.out, rfl⟩), B2.out⟩
    · have i1 : ¬ (I : Int) ≤ (s.size : Int) := by omega
      obtain ⟨e1, e2⟩ := pst_end P.out (by rw [LN.out]; exact c)
      have E1 := hideR e1
      have AP := hideR P.out.1
      obtain ⟨ad, cap, rfl, h1, h2, h3⟩ := own_ratV (n := K) (L := ratsOf done) HK.out.symm O.out
      have H1 := hideR h1
      have H2 := hideR h2
      have PL := hideR (pst_len P.out)
      have RI := hideR (ratsOf_I done)
      have hK : K ≤ 1048577 := by have := PL.out; have := LN.out; have := HK.out; omega
      have HR := hideR (rright6_any ad cap K (ratsOf done) wr (by rw [HK.out]; rfl) (by omega) h2 (ratsOf_I done))
      have HP := hideR (fun W (hb : Below wr.heap.size wr W) => yprint_pt ad K cap (ratsOf done) W (by rw [HK.out]; rfl) (by omega) (H2.out.later hb) (ratsOf_I done) (pow_later HT.out (beyond B.out hb)))
      clear O h1 h2 h3 e1 e2 P RI
      cases r : rightL (ratsOf done) with
      | false =>
        rw [r] at HR
        have NG : Hid (¬ GoodT l) := fun hg => by
          have := hg.2
          rw [E1.out, r] at this
          cases this
        clear r HP
        go_wp2_with fail
        have X := HR.out
        with_reducible refine X.mono ?_
        clear X
        rintro e w1 ⟨rfl, hb⟩
        have B1 := hideR (beyond B.out hb)
        clear hb HR
        go_wp2_with fail
        go_ret2
        exact ⟨.inr (.inl ⟨by rw [← EL2.out]; exact HNE.out, by rw [← EL2.out]; exact NG.out, rfl⟩), B1.out⟩
      | true =>
        rw [r] at HR
        have GG : Hid (GoodT l) := ⟨by rw [E1.out]; exact AP.out, by rw [E1.out]; exact r⟩
        have PR : Hid (prtL (ratsOf done) = l) := by
          show _ = _
          rw [← E1.out]
          exact good_print GG.out
        rw [PR.out] at HP
        rw [show (⟨l.toArray⟩ : ByteArray) = s by rw [EL2.out]] at HP
        clear r PR
        go_wp2_with fail
        have X := HR.out
        with_reducible refine X.mono ?_
        clear X
        rintro e w1 ⟨rfl, hb⟩
        have B1 := hideR (beyond B.out hb)
        have V1 := hideR (H2.out.later hb)
        have HP1 := hideR (HP.out _ hb)
        clear hb HR HP
        go_wp2_with fail
        have X := HP1.out
        with_reducible refine X.mono ?_
        clear X
        rintro e w2 ⟨rfl, hb⟩
        have B2 := hideR (beyond B1.out hb)
        have V2 := hideR (V1.out.later hb)
        clear hb HP1 V1 B1
        have HO : Hid (PtOut w2 w.heap.size s.data.toList (.returned (.tuple #[.slice ad K cap, .int .i64 0]))) := .inr (.inr ⟨by rw [← EL2.out]; exact HNE.out, by rw [← EL2.out]; exact GG.out, ad, cap, by rw [← EL2.out, E1.out, HK.out], by rw [← EL2.out, E1.out, ← HK.out]; exact H1.out, by rw [← EL2.out, E1.out]; exact V2.out⟩)
        go_wp2_with fail
        go_ret2
        exact ⟨HO.out, B2.out⟩
theorem yparse_pt (s : ByteArray) (w : World) (hs : s.size ≤ 1048576) (ht : Pow w) :
    Calls Tryz.prog 6 #[.string s] w fun e w' => PtOut w' w.heap.size s.data.toList e ∧ Below w.heap.size w w' := by
  cases h : s.toList.isEmpty with
  | true =>
    have z : RatI ⟨0, fun _ => 0, fun _ => 0⟩ := fun k hk => absurd hk (Nat.not_lt_zero _)
    have zV : ∀ W, RatV W none ⟨0, fun _ => 0, fun _ => 0⟩ := fun W k hk => absurd hk (Nat.not_lt_zero _)
    refine (yparse_nil s w h (rright6_any none 0 0 ⟨0, fun _ => 0, fun _ => 0⟩ w rfl (by omega) (zV w) z) (fun w' hb => yprint_pt none 0 0 ⟨0, fun _ => 0, fun _ => 0⟩ w' rfl (by omega) (zV w') z (pow_later ht hb))).mono fun e w' ⟨h1, h2⟩ => ⟨.inl ⟨nil_text s h, h1⟩, h2⟩
  | false => exact yparse_some s w h hs ht
end Go.Proofs.YteifpplemohdcaaGreatDoor
