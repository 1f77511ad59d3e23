/-
  rat.Parse of every text.
-/
import Derived.Test.YteifpplemohdcaaGreatDoorQ19
import Derived.Test.YteifpplemohdcaaGreatDoorQ20
import Derived.Test.YteifpplemohdcaaGreatDoorQ17
import Derived.Test.YteifpplemohdcaaGreatDoorQ18
namespace Go.Proofs.YteifpplemohdcaaGreatDoor
open Go.RowKit Go.Shelf
set_option linter.unusedVariables false
theorem read_list (m : List UInt8) (w : World) (hlim : m.length ≤ 140737488355328) (ht : Pow w) (he : Errs w) :
    Calls Tryz.prog 29 #[.string ⟨m.toArray⟩] w fun e w' => e = .returned (.tuple #[.int .i64 (readN m), .bool (readS m)]) ∧ Below w.heap.size w w' := by
  have c := read_any ⟨m.toArray⟩ w (by show m.toArray.size ≤ _; simpa using hlim) ht he
  exact c
theorem eq_bytes (a : List UInt8) (s : ByteArray) : ((⟨a.toArray⟩ : ByteArray).toList == s.toList) = decide (a = s.data.toList) := by
  rw [ByteArray.toList_eq, ByteArray.toList_eq]
  by_cases h : a = s.data.toList
  · simp [h]
  · simp [h]
theorem rparse_any (s : ByteArray) (w : World) (hlim : s.size ≤ 140737488355328) (ht : Pow w) (he : Errs w) :
    Calls Tryz.prog 14 #[.string s] w fun e w' => e = .returned (trip (parseT s.data.toList)) ∧ Below w.heap.size w w' := by
  have el : s.data.toList.length = s.size := by simp
  obtain ⟨l1, l2⟩ := cut_len s.data.toList
  have HC : Hid (∀ w, Calls Tryz.prog 28 #[.string s, .string ⟨#[47]⟩] w fun e w' => e = .returned (.tuple #[.string ⟨(cutL s.data.toList).1.toArray⟩, .string ⟨(cutL s.data.toList).2.1.toArray⟩, .bool (cutL s.data.toList).2.2]) ∧ Below w.heap.size w w') := hideR fun w => cut_any s w (by omega)
  have HR1 : Hid (∀ w', Below w.heap.size w w' → Calls Tryz.prog 29 #[.string ⟨(cutL s.data.toList).1.toArray⟩] w' fun e w'' => e = .returned (.tuple #[.int .i64 (readN (cutL s.data.toList).1), .bool (readS (cutL s.data.toList).1)]) ∧ Below w'.heap.size w' w'') := hideR fun w' hb => read_list _ w' (by omega) (pow_later ht hb) (errs_later he hb)
  have HR2 : Hid (∀ w', Below w.heap.size w w' → Calls Tryz.prog 29 #[.string ⟨(cutL s.data.toList).2.1.toArray⟩] w' fun e w'' => e = .returned (.tuple #[.int .i64 (readN (cutL s.data.toList).2.1), .bool (readS (cutL s.data.toList).2.1)]) ∧ Below w'.heap.size w' w'') := hideR fun w' hb => read_list _ w' (by omega) (pow_later ht hb) (errs_later he hb)
  have i1 := read_i64 (cutL s.data.toList).1
  have i2 := read_i64 (cutL s.data.toList).2.1
  have HP : Hid (∀ d, I64 d → ∀ w', Below w.heap.size w w' → Calls Tryz.prog 21 #[rv (readN (cutL s.data.toList).1) d] w' fun e w'' => e = .returned (.string ⟨(printR (readN (cutL s.data.toList).1) d).toArray⟩) ∧ Below w'.heap.size w' w'') := hideR fun d hd w' hb => rprintT _ d w' i1 hd (pow_later ht hb)
  have D : parseT s.data.toList = if okOf s.data.toList = true ∧ printR (readN (cutL s.data.toList).1) (denOf s.data.toList) = s.data.toList then (readN (cutL s.data.toList).1, denOf s.data.toList, 0) else (0, 0, 7) := rfl
  have D1 : denOf s.data.toList = if (cutL s.data.toList).2.2 && readS (cutL s.data.toList).1 then readN (cutL s.data.toList).2.1 else 1 := rfl
  have D2 : okOf s.data.toList = if (cutL s.data.toList).2.2 && readS (cutL s.data.toList).1 then readS (cutL s.data.toList).2.1 else readS (cutL s.data.toList).1 := rfl
  cases o1 : readS (cutL s.data.toList).1
  · rw [o1] at HR1 D1 D2
    rw [Bool.and_false] at D1 D2
    have e : parseT s.data.toList = (0, 0, 7) := by
      rw [D, D2]
      simp
    rw [e]
    cases sl : (cutL s.data.toList).2.2
    · rw [sl] at HC
      exact rparse_a0 s _ _ ⟨#[]⟩ _ 0 w HC HR1
    · rw [sl] at HC
      exact rparse_a1 s _ _ ⟨#[]⟩ _ 0 w HC HR1
  · rw [o1] at HR1 D1 D2
    rw [Bool.and_true] at D1 D2
    cases sl : (cutL s.data.toList).2.2
    · rw [sl] at HC D1 D2
      have E1 : denOf s.data.toList = 1 := D1
      have E2 : okOf s.data.toList = true := D2
      rw [E1, E2] at D
      by_cases q : printR (readN (cutL s.data.toList).1) 1 = s.data.toList
      · rw [D, if_pos ⟨rfl, q⟩]
        exact rparse_b1 s _ _ _ _ 0 w HC HR1 (HP.out 1 ⟨by decide, by decide⟩) (by rw [eq_bytes, decide_eq_true q])
      · rw [D, if_neg (fun h => q h.2)]
        exact rparse_b0 s _ _ _ _ 0 w HC HR1 (HP.out 1 ⟨by decide, by decide⟩) (by rw [eq_bytes, decide_eq_false q])
    · rw [sl] at HC D1 D2
      have E1 : denOf s.data.toList = readN (cutL s.data.toList).2.1 := D1
      have E2 : okOf s.data.toList = readS (cutL s.data.toList).2.1 := D2
      rw [E1, E2] at D
      cases o2 : readS (cutL s.data.toList).2.1
      · rw [o2] at HR2 D
        have e : parseT s.data.toList = (0, 0, 7) := by
          rw [D]
          simp
        rw [e]
        exact rparse_c s _ _ ⟨#[]⟩ _ _ w HC HR1 HR2
      · rw [o2] at HR2 D
        by_cases q : printR (readN (cutL s.data.toList).1) (readN (cutL s.data.toList).2.1) = s.data.toList
        · rw [D, if_pos ⟨rfl, q⟩]
          exact rparse_c1 s _ _ _ _ _ w HC HR1 HR2 (HP.out _ i2) (by rw [eq_bytes, decide_eq_true q])
        · rw [D, if_neg (fun h => q h.2)]
          exact rparse_c0 s _ _ _ _ _ w HC HR1 HR2 (HP.out _ i2) (by rw [eq_bytes, decide_eq_false q])
end Go.Proofs.YteifpplemohdcaaGreatDoor

/-
  point.gather of texts, point.Parse.
-/
namespace Go.Proofs.YteifpplemohdcaaGreatDoor
open Go.RowKit Go.Shelf
set_option linter.unusedVariables false
set_option maxRecDepth 100000
/-- What is gathered of pieces: the first error, or all. -/
def GatOut (w' : World) (base : Nat) (ps : List (List UInt8)) (e : Ending) : Prop :=
  (∃ K, K < ps.length ∧ (parseT (ps.getD K [])).2.2 ≠ 0 ∧ e = .returned (.tuple #[.slice none 0 0, .int .i64 7])) ∨
  (allP ps ps.length ∧ ∃ ad cap', e = .returned (.tuple #[.slice ad ps.length cap', .int .i64 0]) ∧ (ad = none → ps.length = 0 ∧ cap' = 0) ∧ RatV w' ad (ratsOf ps) ∧ NewAt w' base ad ps.length cap')
set_option maxHeartbeats 2000000 in
theorem gatherS_any (g q cap : Nat) (P : List ByteArray) (w : World) (hq : P.length = q) (q9 : q ≤ 9) (hc : ∀ j, j < q → w.cell? ⟨g, j, none⟩ = some (.string (P.getD j ⟨#[]⟩))) (hs : ∀ j, j < q → (P.getD j ⟨#[]⟩).size ≤ 140737488355328) (ht : Pow w) (he : Errs w) :
    Calls Tryz.prog 12 #[.slice (some ⟨g, 0, none⟩) q cap, .func (.func 14) #[] #[]] w fun e w' => GatOut w' w.heap.size (PL P) e ∧ Below w.heap.size w w' := by
  obtain ⟨i0, hi, hz0, hz1, hz2⟩ := info_parts info_rat
  have HC := hideR hc
  have HS := hideR hs
  have HT := hideR (show Pow w ∧ Errs w from ⟨ht, he⟩)
  have HQ := hideR hq
  have n1 : (q : Int) ≤ 9 := by omega
  clear hc hs ht he hq
  go_enter Tryz.func12, Tryz.ntmps12
  go_wp2_with fail
  go_loopw [6, 13] (fun l s wr => ∃ (K : Nat) (v : Value), K ≤ q ∧ l = v ∧ s = .int .i64 (K : Int) ∧ Hid (allP (PL P) K) ∧ Hid (wr.ownsRow w.heap.size 33 2 v K (ratCk (ratsOf (PL P)) K)) ∧ Hid (Below w.heap.size w wr)) (fun _ s _ => q - (intOf s).toNat)
  case atStart => exact ⟨0, _, Nat.zero_le _, rfl, rfl, fun k hk => absurd hk (Nat.not_lt_zero _), World.ownsRow_nil _ _ _ _, Below.refl _ _⟩
  case round =>
    obtain ⟨K, v, hK, hv, rfl, E, O, B⟩ := hrel
    replace hv := hv.symm
    subst hv
    by_cases ck : K < q
    · have e0 := kc _ _ B.out (HC.out K ck)
      have k0 : (K : Int) < (q : Int) := by omega
      have RN : Hid (ratCk (ratsOf (PL P)) (K + 1) = ratCk (ratsOf (PL P)) K ++ [.int .i64 (parseT ((PL P).getD K [])).1, .int .i64 (parseT ((PL P).getD K [])).2.1]) := ratCk_next _ K
      have HL := hideR (fun w' (h : Below w.heap.size w w') => rparse_any (P.getD K ⟨#[]⟩) w' (HS.out K ck) (pow_later HT.out.1 h) (errs_later HT.out.2 h))
      rw [← PL_get P K (by rw [HQ.out]; exact ck)] at HL
      obtain ⟨T, eT⟩ : ∃ T, T = parseT ((PL P).getD K []) := ⟨_, rfl⟩
      have HT' := hideR eT
      have HE := hideR (parse_err ((PL P).getD K []))
      rw [← eT] at HL RN HE
      clear eT
      generalize P.getD K ⟨#[]⟩ = x at HL e0
      obtain ⟨t0, t1, t2⟩ := T
      have HL := hideR (HL.out _ B.out)
      go_wp2_with fail
      refine HL.out.mono ?_
      rintro e w1 ⟨rfl, hb⟩
      have O1 : w1.ownsRow w.heap.size 33 2 v K (ratCk (ratsOf (PL P)) K) := World.ownsRow.kept O.out (grown_below hb (Nat.le_refl _)) (by cases v.ownBlock <;> simp)
      have B1 := hideR (beyond B.out hb)
      clear hb HL e0
      by_cases tz : t2 = 0
      · subst tz
        go_wp2_with (at_builtin; refine wp_app_any _ rfl _ _ 22 rfl w.heap.size 33 i0 (.agg #[.int .i64 0, .int .i64 0]) 2 16 Tryz.underlying22 hi hz0 hz1 hz2 rfl (by decide) _ K _ rfl ((O1.alloc _).alloc _) _ 1 1 [.int .i64 t0, .int .i64 t1] rfl (fun e => by cases e) rfl (fun d e j u h => two_news _ _ _ _ d (by rw [← e]; simp) j u h) (by simp [Value.oneCell']) (by unfold maxLen; omega) (by omega) (by have := B1.out.size; simp; omega) ?_; intro v' w2 hown hgrow)
        have B2 : Hid (Below w.heap.size w w2) := by
          have h2 := beyond B1.out (two w1 (.cells #[.int .i64 t0, .int .i64 t1] 33) (.cells #[.int .i64 t0, .int .i64 t1] 33))
          rcases hgrow with e | hg
          · rw [e]; exact h2
          · exact h2.grown hg h2.size (fun k hk => own_ge O1 k hk)
        have O2 : Hid (w2.ownsRow w.heap.size 33 2 v' (K + 1) (ratCk (ratsOf (PL P)) (K + 1))) := by
          show w2.ownsRow _ _ _ _ _ _
          rw [RN.out]
          exact hown
        have E2 : Hid (allP (PL P) (K + 1)) := fun k hk => by
          by_cases e : k = K
          · subst e
            rw [← HT'.out]
          · exact E.out k (by omega)
        clear hown hgrow O1 B1 O B RN
        go_wp2_with fail
        go_roundw
        case rel => exact ⟨K + 1, v', by omega, rfl, by go_num, E2, O2, B2⟩
        case measure => simp [intOf]; omega
      · have e7 : t2 = 7 := HE.out tz
        subst e7
        have W0 : Hid (∃ K, K < (PL P).length ∧ (parseT ((PL P).getD K [])).2.2 ≠ 0) := ⟨K, by rw [PL_len, HQ.out]; exact ck, by rw [← HT'.out]; exact tz⟩
        have B2 := hideR (beyond B1.out (single w1 (.cells #[.int .i64 t0, .int .i64 t1] 33)))
        clear O1 B1 O B RN HT' E HE tz
        go_wp2_with fail
        go_ret2
        obtain ⟨K', h1, h2⟩ := W0.out
        exact ⟨.inl ⟨K', h1, h2, rfl⟩, B2.out⟩
    · have eK : K = q := by omega
      have k0 : ¬ (K : Int) < (q : Int) := by omega
      have O2 := O.out
      rw [eK] at O2
      have eL : (PL P).length = q := by rw [PL_len, HQ.out]
      obtain ⟨ad2, cap2, rfl, h1, h2, h3⟩ := own_ratV (n := q) (L := ratsOf (PL P)) eL O2
      have HH : Hid (GatOut wr w.heap.size (PL P) (.returned (.tuple #[.slice ad2 q cap2, .int .i64 0]))) := .inr ⟨fun k hk => E.out k (by rw [eK, ← eL]; exact hk), ad2, cap2, by rw [eL], fun h => by rw [eL]; exact h1 h, h2, by rw [eL]; exact h3⟩
      clear O O2 eK h1 h2 h3 E eL
      go_wp2_with fail
      go_ret2
      exact ⟨HH.out, B.out⟩
/-- What a text reads as. -/
def PtOut (w' : World) (base : Nat) (l : List UInt8) (e : Ending) : Prop :=
  (l = [] ∧ e = .returned (.tuple #[.slice none 0 0, .int .i64 0])) ∨
  (l ≠ [] ∧ ¬ GoodT l ∧ e = .returned (.tuple #[.slice none 0 0, .int .i64 7])) ∨
  (l ≠ [] ∧ GoodT l ∧ ∃ ad cap, e = .returned (.tuple #[.slice ad (pcs l).length cap, .int .i64 0]) ∧ (ad = none → (pcs l).length = 0 ∧ cap = 0) ∧ RatV w' ad (ratsOf (pcs l)))
end Go.Proofs.YteifpplemohdcaaGreatDoor

/-
  point.Parse.
-/
namespace Go.Proofs.YteifpplemohdcaaGreatDoor
open Go.RowKit Go.Shelf
set_option linter.unusedVariables false
set_option maxRecDepth 100000
theorem nil_text (s : ByteArray) (h : s.toList.isEmpty = true) : s.data.toList = [] := by
  rw [Lib.toList_data] at h
  simpa using h
theorem not_nil_text (s : ByteArray) (h : s.toList.isEmpty = false) : s.data.toList ≠ [] := by
  rw [Lib.toList_data] at h
  intro e
  rw [e] at h
  cases h
theorem parse_nil (s : ByteArray) (w : World) (h : s.toList.isEmpty = true) :
    Calls Tryz.prog 5 #[.string s] w fun e w' => e = .returned (.tuple #[.slice none 0 0, .int .i64 0]) ∧ Below w.heap.size w w' := by
  go_enter Tryz.func5, Tryz.ntmps5
  go_wp2_with fail
  go_ret2
  exact ⟨rfl, Below.refl _ _⟩
set_option maxHeartbeats 2000000 in
theorem parse_some (s : ByteArray) (w : World) (h : s.toList.isEmpty = false) (hs : s.size ≤ 1048576) (ht : Pow w) (he : Errs w) :
    Calls Tryz.prog 5 #[.string s] w fun e w' => PtOut w' w.heap.size s.data.toList e ∧ Below w.heap.size w w' := by
  have HN := hideR (splitN_any s w (by omega))
  have B0 := hideR (single w (.cells (Lib.cellsOf (splitV s) (atMostN s)) 9))
  have hq9 : (splitV s).length ≤ 9 := by have := split_le s; unfold atMostN at this; omega
  obtain ⟨q, hq⟩ : ∃ q, (splitV s).length = q := ⟨_, rfl⟩
  have HG := hideR (gatherS_any w.heap.size q (atMostN s) (splitV s) (w.alloc (.cells (Lib.cellsOf (splitV s) (atMostN s)) 9)) hq (by omega) (fun j hj => split_cell s w j (by omega)) (fun j hj => by have := split_size s j (by omega); omega) (pow_later ht B0.out) (errs_later he B0.out))
  rw [hq] at HN
  have HNE := hideR (not_nil_text s h)
  have HSP := hideR (split_says s)
  have hl : (PL (splitV s)).length = q := by rw [PL_len, hq]
  have HL := hideR (show (PL (splitV s)).length ≤ 9 by omega)
  have bad1 : Hid (∀ K, K < (PL (splitV s)).length → (parseT ((PL (splitV s)).getD K [])).2.2 ≠ 0 → ¬ GoodT s.data.toList) := fun K hK hne hg => by
    rcases HSP.out with e | ⟨_, e⟩
    · rw [e] at hK hne
      exact hne (hg.1 K hK)
    · have := (right_at hg.2).1
      have e2 : (ratsOf (pcs s.data.toList)).q = (pcs s.data.toList).length := rfl
      omega
  have bad2 : Hid (rightL (ratsOf (PL (splitV s))) = false → ¬ GoodT s.data.toList) := fun hr hg => by
    rcases HSP.out with e | ⟨_, e⟩
    · rw [e, hg.2] at hr
      cases hr
    · have := (right_at hg.2).1
      have e2 : (ratsOf (pcs s.data.toList)).q = (pcs s.data.toList).length := rfl
      omega
  have good : Hid (rightL (ratsOf (PL (splitV s))) = true → PL (splitV s) = pcs s.data.toList) := fun hr => by
    rcases HSP.out with e | ⟨e9, e⟩
    · exact e
    · have := (right_at hr).1
      have e2 : (ratsOf (PL (splitV s))).q = (PL (splitV s)).length := rfl
      omega
  have GO : Hid (allP (PL (splitV s)) (PL (splitV s)).length → rightL (ratsOf (PL (splitV s))) = true → GoodT s.data.toList) := fun h1 h2 => by
    have e := good.out h2
    rw [e] at h1 h2
    exact ⟨h1, h2⟩
  have RI := hideR (ratsOf_I (PL (splitV s)))
  clear hq hl hq9 ht he hs
  generalize PL (splitV s) = P at *
  generalize w.alloc (.cells (Lib.cellsOf (splitV s) (atMostN s)) 9) = W0 at *
  go_enter Tryz.func5, Tryz.ntmps5
  go_wp2_with fail
  refine HN.out.mono ?_
  rintro e w1 ⟨rfl, e1⟩
  obtain rfl := e1.symm
  go_wp2_with fail
  refine HG.out.mono ?_
  rintro e w2 ⟨ho, hb⟩
  have B2 := hideR (beyond B0.out hb)
  have S0 := hideR B0.out.size
  clear hb HG HN B0
  rcases ho with ⟨K, h1, h2, rfl⟩ | ⟨h0, ad, cap, rfl, h1, h2, h3⟩
  · have hbad := hideR (bad1.out K h1 h2)
    clear h1 h2
    go_wp2_with fail
    go_ret2
    exact ⟨.inr (.inl ⟨HNE.out, hbad.out, rfl⟩), B2.out⟩
  · have HR := hideR (pright_any ad cap P.length (ratsOf P) w2 rfl (by have := HL.out; omega) h2 RI.out)
    have H0 := hideR h0
    have H1 := hideR h1
    have H2 := hideR h2
    have H3 := hideR h3
    clear h0 h1 h2 h3
    cases r : rightL (ratsOf P) with
    | false =>
      rw [r] at HR
      have hbad := hideR (bad2.out r)
      go_wp2_with fail
      have X := HR.out
      with_reducible refine X.mono ?_
      clear X
      rintro e w3 ⟨rfl, hb⟩
      have B3 := hideR (beyond B2.out hb)
      clear hb HR
      go_wp2_with fail
      go_ret2
      exact ⟨.inr (.inl ⟨HNE.out, hbad.out, rfl⟩), B3.out⟩
    | true =>
      rw [r] at HR
      have eP := hideR (good.out r)
      have hg := hideR (GO.out H0.out r)
      go_wp2_with fail
      have X := HR.out
      with_reducible refine X.mono ?_
      clear X
      rintro e w3 ⟨rfl, hb⟩
      have B3 := hideR (beyond B2.out hb)
      have V3 := hideR (H2.out.later hb)
      clear hb HR
      have HO : Hid (PtOut w3 w.heap.size s.data.toList (.returned (.tuple #[.slice ad P.length cap, .int .i64 0]))) := .inr (.inr ⟨HNE.out, hg.out, ad, cap, by rw [eP.out], by rw [← eP.out]; exact H1.out, by rw [← eP.out]; exact V3.out⟩)
      go_wp2_with fail
      go_ret2
      exact ⟨HO.out, B3.out⟩
theorem pparse_pt (s : ByteArray) (w : World) (hs : s.size ≤ 1048576) (ht : Pow w) (he : Errs w) :
    Calls Tryz.prog 5 #[.string s] w fun e w' => PtOut w' w.heap.size s.data.toList e ∧ Below w.heap.size w w' := by
  cases h : s.toList.isEmpty with
  | true => exact (parse_nil s w h).mono fun e w' ⟨h1, h2⟩ => ⟨.inl ⟨nil_text s h, h1⟩, h2⟩
  | false => exact parse_some s w h hs ht he
end Go.Proofs.YteifpplemohdcaaGreatDoor
