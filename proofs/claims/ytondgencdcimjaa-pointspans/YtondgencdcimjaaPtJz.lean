/-
  dbm.Of in all cases; the walk of PointLeastIn.
-/
import Derived.Test.YtondgencdcimjaaPtIz
import Derived.Test.YtondgencdcimjaaPtGz
import Derived.Test.YtondgencdcimjaaZd
import Derived.Test.YtondgencdcimjaaPtOz
namespace Go.Proofs.Ytondgencdcimjaa
open Go.RowKit Go.Shelf Go.ChangeShapes Go.WideShapes Go.ChangeAt
set_option linter.unusedVariables false
set_option maxRecDepth 100000
def SliceAt (w : World) (v : Value) (l : List Int) : Prop := (∃ ad c, v = .slice ad 0 c ∧ l = []) ∨ (∃ b off cap, v = .slice (some ⟨b, off, none⟩) l.length cap ∧ ∀ j, j < l.length → w.cell? ⟨b, off + j, none⟩ = some (.int .i32 (l.getD j 0)))
def U16S (w : World) (v : Value) (l : List Int) : Prop := (∃ ad c, v = .slice ad 0 c ∧ l = []) ∨ (∃ b off cap, v = .slice (some ⟨b, off, none⟩) l.length cap ∧ ∀ j, j < l.length → w.cell? ⟨b, off + j, none⟩ = some (.int .u16 (l.getD j 0)))
theorem right_all {l : List Int} : ∀ {m : Nat}, allRight l m = true → RightL m l
  | 0, _ => fun k hk => by omega
  | m + 1, h => fun k hk => by
    rw [allRight] at h
    simp only [Bool.and_eq_true] at h
    by_cases e : k = m
    · subst e
      have := h.2
      unfold rightB at this
      exact of_decide_eq_true this
    · exact right_all h.1 k (by omega)
/-- What dbm.Of tells: an error, or a zone. -/
def OfOut (w' : World) (n : Int) (e : Ending) : Prop := (∃ x : Int, e = .returned (.tuple #[.pointer none, .int .i64 x])) ∨ ∃ (N b : Nat) (c : Row), n = N ∧ N ≤ 8 ∧ e = .returned (.tuple #[.pointer (some ⟨b, 0, none⟩), .int .i64 0]) ∧ ZoneAt w' b N c ∧ (∀ k, rightB (c k) = true) ∧ (¬ c 0 < 1 → ∃ p, Full N ((N + 1) * (N + 1)) p c)
theorem ofP_any (n : Int) (v : Value) (l : List Int) (w : World) (hS : SliceAt w v l) (hi : ∀ j, j < l.length → -2147483648 ≤ l.getD j 0 ∧ l.getD j 0 ≤ 2147483647) (hby : l.length ≤ 9223372036854775807) :
    Calls Try.prog 6 #[.int .i64 n, v] w fun e w' => OfOut w' n e ∧ Below w.heap.size w w' := by
  by_cases hn : 0 ≤ n ∧ n ≤ 8
  · obtain ⟨N, rfl⟩ := Int.eq_ofNat_of_zero_le hn.1
    have N8 : N ≤ 8 := by omega
    have long : ∀ ad len cap, ¬ len = (N + 1) * (N + 1) → len ≤ 9223372036854775807 → Calls Try.prog 6 #[.int .i64 N, .slice ad len cap] w fun e w' => OfOut w' N e ∧ Below w.heap.size w w' := fun ad len cap h1 h2 => (of_long N len cap ad w N8 h1 h2).mono fun x w' ⟨hx, hb⟩ => ⟨.inl ⟨6, hx⟩, hb⟩
    by_cases hl : l.length = (N + 1) * (N + 1)
    · rcases hS with ⟨ad, c, rfl, rfl⟩ | ⟨cb, off, cap, rfl, hc⟩
      · exfalso
        simp at hl
      · refine (of_main N cb off cap l w N8 hl hc hi).mono ?_
        rintro e w' ⟨hb, ⟨-, rfl⟩ | ⟨ha, hz⟩⟩
        · exact ⟨.inl ⟨7, rfl⟩, hb⟩
        · refine ⟨?_, hb⟩
          cases ez : zoneR N (tgAll N l l.length (startR N (N + 1) 0)) with
          | none =>
            rw [ez] at hz
            exact .inl ⟨10, hz⟩
          | some c =>
            rw [ez] at hz
            obtain ⟨b, _, rfl, hz⟩ := hz
            exact .inr ⟨N, b, c, rfl, N8, rfl, hz, zoneR_right ez, fun h0 => full_of (l := l) N8 rfl (hl ▸ right_all ha) (by rw [← hl]; exact ez) h0⟩
    · rcases hS with ⟨ad, c, rfl, rfl⟩ | ⟨cb, off, cap, rfl, hc⟩
      · exact long _ _ _ (fun e => hl (by rw [List.length_nil]; exact e)) (by decide)
      · exact long _ _ _ hl hby
  · refine (of_clock n v w hn).mono ?_
    rintro e w' ⟨rfl, rfl⟩
    exact ⟨.inl ⟨12, rfl⟩, Below.refl _ _⟩
theorem SliceAt.later {w w' : World} {v : Value} {l : List Int} (h : SliceAt w v l) (hb : Below w.heap.size w w') : SliceAt w' v l := by
  rcases h with h | ⟨b, off, cap, e, hc⟩
  · exact .inl h
  · exact .inr ⟨b, off, cap, e, fun j hj => kc _ _ hb (hc j hj)⟩
theorem U16S.later {w w' : World} {v : Value} {l : List Int} (h : U16S w v l) (hb : Below w.heap.size w w') : U16S w' v l := by
  rcases h with h | ⟨b, off, cap, e, hc⟩
  · exact .inl h
  · exact .inr ⟨b, off, cap, e, fun j hj => kc _ _ hb (hc j hj)⟩
theorem getD_mem {l : List Int} {j : Nat} (hj : j < l.length) : l.getD j 0 ∈ l := by
  rw [List.getD_eq_getElem?_getD, List.getElem?_eq_getElem hj]
  exact List.getElem_mem hj
theorem u16_open {w : World} {v : Value} {l : List Int} (h : U16S w v l) : ∃ ad cap, v = .slice ad l.length cap ∧ ∀ j, j < l.length → ∃ b off, ad = some ⟨b, off, none⟩ ∧ w.cell? ⟨b, off + j, none⟩ = some (.int .u16 (l.getD j 0)) := by
  rcases h with ⟨ad, c, rfl, rfl⟩ | ⟨b, off, cap, rfl, hc⟩
  · exact ⟨ad, c, rfl, fun j hj => absurd hj (Nat.not_lt_zero _)⟩
  · exact ⟨_, cap, rfl, fun j hj => ⟨b, off, rfl, hc j hj⟩⟩
theorem bounds_u16' {z : Int} (h : (Lit.int .u16 z).wf = true) : 0 ≤ z ∧ z ≤ 65535 := by
  simp [Lit.wf, IntKind.min, IntKind.max, IntKind.signed, IntKind.bits] at h
  omega
/-- The numbers of the other point. -/
def othX (l : List Int) (k : Nat) : Int := if k < l.length then l.getD k 0 else 0
set_option maxHeartbeats 4000000 in
theorem pointLeastIn.walk (n : Int) (wn : (Lit.int .i64 n).wf = true) (v : Value) (l : List Int) (v' : Value) (l' : List Int) (w : World) (hS : SliceAt w v l) (wf : ∀ z ∈ l, (Lit.int .i32 z).wf = true) (hby : l.length * 4 ≤ 140737488355328) (hnl : ∀ {c}, v = .slice none 0 c → c = 0)
    (hS' : U16S w v' l') (wf' : ∀ z ∈ l', (Lit.int .u16 z).wf = true) (hby' : l'.length * 2 ≤ 140737488355328) (hnl' : ∀ {c}, v' = .slice none 0 c → c = 0) :
    Calls Try.prog 3 #[.int .i64 n, v, v'] w fun e w' => e = .returned (.bool true) ∧ Below w.heap.size w w' := by
  have HO := hideD (fun W (hb : Below w.heap.size w W) => ofP_any n v l W (hS.later hb) (fun j hj => bounds_i32 (wf _ (getD_mem hj))) (by omega))
  have H0 := hideD (plive_any w)
  clear hS wf hby hnl wn
  have HS := hideD hS'
  have HW := hideD wf'
  have HBy := hideD hby'
  clear hS' wf' hby' hnl'
  go_enter Try.func3, Try.ntmps3
  go_wp2_with fail
  refine H0.out.mono ?_
  rintro e w1 ⟨rfl, hb1⟩
  have H1 := hideD (HO.out w1 hb1)
  have B1 := hideD hb1
  clear HO H0 hb1
  go_wp2_with fail
  refine H1.out.mono ?_
  rintro e w2 ⟨⟨x, rfl⟩ | ⟨N, b, c, rfl, N8, rfl, hz, hc, hF⟩, hb2⟩
  · have B2 := hideD (beyondD B1.out hb2)
    have HL := hideD (leastP_nil w2)
    clear H1 B1 hb2 HS HW HBy
    go_wp2_with fail
    refine HL.out.mono ?_
    rintro e w3 ⟨rfl, hb3⟩
    have B3 := hideD (beyondD B2.out hb3)
    clear HL B2 hb3
    go_wp2_with fail
    go_ret
    exact ⟨rfl, B3.out⟩
  · have B2 := hideD (beyondD B1.out hb2)
    have HE := emptyP_any b N c w2 N8 hz
    have HZ := hideD hz
    by_cases h0 : c 0 < 1
    · rw [decide_eq_true h0] at HE
      have HE := hideD HE
      have HL := hideD (fun W (hb : Below w2.heap.size w2 W) => leastP_empty b N c W N8 (HZ.out.past hb) h0)
      clear H1 B1 hb2 HS HW HBy hz hF hc
      go_wp2_with fail
      refine HE.out.mono ?_
      rintro e w3 ⟨rfl, hb3⟩
      have B3 := hideD (beyondD B2.out hb3)
      have H3 := hideD (HL.out w3 hb3)
      clear HL B2 hb3 HE
      go_wp2_with fail
      refine H3.out.mono ?_
      rintro e w4 ⟨rfl, hb4⟩
      have B4 := hideD (beyondD B3.out hb4)
      clear H3 B3 hb4
      go_wp2_with fail
      go_ret
      exact ⟨rfl, B4.out⟩
    · rw [decide_eq_false h0] at HE
      have HE := hideD HE
      obtain ⟨p, hp⟩ := hF h0
      have ub := units_bd N8 rfl hp
      have HL := hideD (fun W (hb : Below w2.heap.size w2 W) => leastP_any b N ((N + 1) * (N + 1)) c W N8 rfl (HZ.out.past hb) hc h0 (fun k hk => (newT_small (ub k hk).1 (ub k hk).2 (by omega) (by omega)).1))
      have ld : ∀ k, k < N → okR ((gridL N (unitsF N c) ((N : Int) + 1)).n k) ((gridL N (unitsF N c) ((N : Int) + 1)).d k) = true ∧ 0 < (gridL N (unitsF N c) ((N : Int) + 1)).d k ∧ (gridL N (unitsF N c) ((N : Int) + 1)).d k ∣ (N : Int) + 1 ∧ I64 ((gridL N (unitsF N c) ((N : Int) + 1)).n k) ∧ I64 ((gridL N (unitsF N c) ((N : Int) + 1)).d k) := fun k hk => by
        obtain ⟨_, q1, _, q2, q3, q4, q5⟩ := newT_small (g := (N : Int) + 1) (ub k hk).1 (ub k hk).2 (by omega) (by omega)
        exact ⟨q1, q2, q3, q4, q5⟩
      have LD := hideD ld
      have HI := hideD (fun W ad cp (hb : Below w2.heap.size w2 W) (hnil : ad = none → N = 0 ∧ cp = 0) (hV : RatV W ad (gridL N (unitsF N c) ((N : Int) + 1))) => by
        have := inP_any b N ((N + 1) * (N + 1)) N cp ad c (gridL N (unitsF N c) ((N : Int) + 1)) W N8 rfl (HZ.out.past hb) rfl (by omega) hnil hV (fun k hk => (ld k hk).2.2.2)
        rw [least_inB N8 rfl hp hc] at this
        exact this)
      have ox : ∀ k, 0 ≤ othX l' k ∧ othX l' k ≤ 65535 := fun k => by
        unfold othX
        split
        · rename_i hk
          exact bounds_u16' (HW.out _ (getD_mem hk))
        · omega
      have OX := hideD ox
      have HM := hideD (fun W ad cp (hb : Below w2.heap.size w2 W) (hnil : ad = none → N = 0 ∧ cp = 0) (hV : RatV W ad (gridL N (othX l') ((N : Int) + 1))) => inP_any b N ((N + 1) * (N + 1)) N cp ad c (gridL N (othX l') ((N : Int) + 1)) W N8 rfl (HZ.out.past hb) rfl (by omega) hnil hV (fun k hk => (newT_small (ox k).1 (by have := (ox k).2; omega) (by omega) (by omega)).2.2.2.2.2))
      have NL := hideD (fun hin k hk => none_less (x := othX l') N8 rfl hp hc ox hin k hk)
      obtain ⟨ad', cap', rfl, hO⟩ := u16_open HS.out
      have HO := hideD hO
      clear H1 B1 hz hF hc hp ub ld ox hO HS h0
      go_wp2_with fail
      refine HE.out.mono ?_
      rintro e w3 ⟨rfl, hb3⟩
      have H3 := hideD (HL.out w3 hb3)
      have B3 := hideD hb3
      clear HL hb3 HE
      go_wp2_with fail
      refine H3.out.mono ?_
      rintro e w4 ⟨⟨ad, cp, rfl, hnil, hV, -⟩, hb4⟩
      have B4 := hideD (beyondD B3.out hb4)
      have H4 := hideD (HI.out w4 ad cp B4.out hnil hV)
      have HV := hideD hV
      clear HI H3 B3 hb4 hnil hV
      go_wp2_with fail
      refine H4.out.mono ?_
      rintro e w5 ⟨rfl, hb5⟩
      have V5 := hideD (HV.out.later hb5)
      have B5 := hideD (beyondD B4.out hb5)
      have O5 : Hid (∀ j, j < l'.length → ∃ b off, ad' = some ⟨b, off, none⟩ ∧ w5.cell? ⟨b, off + j, none⟩ = some (.int .u16 (l'.getD j 0))) := fun j hj => by
        obtain ⟨b, off, e, h⟩ := HO.out j hj
        exact ⟨b, off, e, kc _ _ (beyondD B2.out (beyondD B5.out (Below.refl _ _))) h⟩
      clear H4 HV B4 hb5 HO
      obtain ⟨i0, hi, hz0, hz1, hz2⟩ := info_parts info_rat
      have n1 : (N : Int) ≤ 8 := by omega
      go_wp2_with fail
      go_loopw [13, 14] (fun l s wr => ∃ (K : Nat) (v : Value), K ≤ N ∧ l = v ∧ s = .int .i64 (K : Int) ∧ Hid (wr.ownsRow w5.heap.size 34 2 v K (ratCk (gridL N (othX l') ((N : Int) + 1)) K)) ∧ Hid (Below w5.heap.size w5 wr)) (fun _ s _ => N - (intOf s).toNat)
      case atStart => exact ⟨0, _, Nat.zero_le _, rfl, rfl, World.ownsRow_nil _ _ _ _, Below.refl _ _⟩
      case round =>
        obtain ⟨K, v, hK, hv, rfl, O, B⟩ := hrel
        replace hv := hv.symm
        subst hv
        by_cases ck : K < N
        · obtain ⟨gb, off, rfl, -, c1⟩ := V5.out K ck
          have c1 := kc _ _ B.out c1
          have k0 : (K : Int) < (N : Int) := by omega
          obtain ⟨-, d0, dd, -, -⟩ := LD.out K ck
          have dv := Int.emod_eq_zero_of_dvd dd
          generalize (gridL N (unitsF N c) ((N : Int) + 1)).d K = d at *
          have rm : ((N : Int) + 1) % d = 0 := dv
          clear dd dv
          have ig : I64 ((N : Int) + 1) := ⟨by omega, by omega⟩
          by_cases cj : K < l'.length
          · obtain ⟨ob, oo, rfl, oc⟩ := O5.out K cj
            have oc := kc _ _ B.out oc
            have j0 : (K : Int) < (l'.length : Int) := by omega
            have ex : othX l' K = l'.getD K 0 := by unfold othX; rw [if_pos cj]
            have xb := OX.out K
            rw [ex] at xb
            obtain ⟨x0, x1⟩ := xb
            have HN := hideR (fun w => rnew_any (l'.getD K 0) ((N : Int) + 1) w ⟨by omega, by omega⟩ ig)
            have RN := hideR (ratCk_next (gridL N (othX l') ((N : Int) + 1)) K)
            rw [show (gridL N (othX l') ((N : Int) + 1)).n K = (newT (l'.getD K 0) ((N : Int) + 1)).1 by show (newT (othX l' K) _).1 = _; rw [ex], show (gridL N (othX l') ((N : Int) + 1)).d K = (newT (l'.getD K 0) ((N : Int) + 1)).2.1 by show (newT (othX l' K) _).2.1 = _; rw [ex]] at RN
            clear ex
            generalize l'.getD K 0 = x at *
            generalize newT x ((N : Int) + 1) = tt at *
            obtain ⟨t0, t1, t2⟩ := tt
            go_wp2_with fail
            refine (HN.out _).mono ?_
            rintro e w6 ⟨rfl, hb⟩
            have O1 : w6.ownsRow w5.heap.size 34 2 v K (ratCk (gridL N (othX l') ((N : Int) + 1)) K) := World.ownsRow.kept O.out (grown_below hb (Nat.le_refl _)) (by cases v.ownBlock <;> simp)
            have B1 := hideR (beyond B.out hb)
            clear hb HN
            go_wp2_with (at_builtin; refine wp_app_any _ rfl _ _ 29 rfl w5.heap.size 34 i0 (.agg #[.int .i64 0, .int .i64 0]) 2 16 Try.underlying29 hi hz0 hz1 hz2 rfl (by decide) _ K _ rfl ((O1.alloc _).alloc _) _ 1 1 [.int .i64 t0, .int .i64 t1] rfl (fun e => by cases e) rfl (fun d e j u h => two_news _ _ _ _ d (by rw [← e]; simp) j u h) (by simp [Value.oneCell']) (by unfold maxLen; omega) (by omega) (by have := B1.out.size; simp; omega) ?_; intro v' w7 hown hgrow)
            have B7 : Hid (Below w5.heap.size w5 w7) := by
              have h2 := beyond B1.out (two w6 (.cells #[.int .i64 t0, .int .i64 t1] 34) (.cells #[.int .i64 t0, .int .i64 t1] 34))
              rcases hgrow with e | hg
              · rw [e]; exact h2
              · exact h2.grown hg h2.size (fun k hk => own_ge O1 k hk)
            have O7 : Hid (w7.ownsRow w5.heap.size 34 2 v' (K + 1) (ratCk (gridL N (othX l') ((N : Int) + 1)) (K + 1))) := by
              show w7.ownsRow _ _ _ _ _ _
              rw [RN.out]
              exact hown
            clear hown hgrow O1 B1 O B RN
            go_wp2_with fail
            go_roundw
            case rel => exact ⟨K + 1, v', by omega, rfl, by go_num, O7, B7⟩
            case measure => simp [intOf]; omega
          · have j0 : ¬ (K : Int) < (l'.length : Int) := by omega
            have ex : othX l' K = 0 := by unfold othX; rw [if_neg cj]
            have HN := hideR (fun w => rnew_any 0 ((N : Int) + 1) w ⟨by omega, by omega⟩ ig)
            have RN := hideR (ratCk_next (gridL N (othX l') ((N : Int) + 1)) K)
            rw [show (gridL N (othX l') ((N : Int) + 1)).n K = (newT 0 ((N : Int) + 1)).1 by show (newT (othX l' K) _).1 = _; rw [ex], show (gridL N (othX l') ((N : Int) + 1)).d K = (newT 0 ((N : Int) + 1)).2.1 by show (newT (othX l' K) _).2.1 = _; rw [ex]] at RN
            clear ex
            generalize newT 0 ((N : Int) + 1) = tt at *
            obtain ⟨t0, t1, t2⟩ := tt
            go_wp2_with fail
            refine (HN.out _).mono ?_
            rintro e w6 ⟨rfl, hb⟩
            have O1 : w6.ownsRow w5.heap.size 34 2 v K (ratCk (gridL N (othX l') ((N : Int) + 1)) K) := World.ownsRow.kept O.out (grown_below hb (Nat.le_refl _)) (by cases v.ownBlock <;> simp)
            have B1 := hideR (beyond B.out hb)
            clear hb HN
            go_wp2_with (at_builtin; refine wp_app_any _ rfl _ _ 29 rfl w5.heap.size 34 i0 (.agg #[.int .i64 0, .int .i64 0]) 2 16 Try.underlying29 hi hz0 hz1 hz2 rfl (by decide) _ K _ rfl ((O1.alloc _).alloc _) _ 1 1 [.int .i64 t0, .int .i64 t1] rfl (fun e => by cases e) rfl (fun d e j u h => two_news _ _ _ _ d (by rw [← e]; simp) j u h) (by simp [Value.oneCell']) (by unfold maxLen; omega) (by omega) (by have := B1.out.size; simp; omega) ?_; intro v' w7 hown hgrow)
            have B7 : Hid (Below w5.heap.size w5 w7) := by
              have h2 := beyond B1.out (two w6 (.cells #[.int .i64 t0, .int .i64 t1] 34) (.cells #[.int .i64 t0, .int .i64 t1] 34))
              rcases hgrow with e | hg
              · rw [e]; exact h2
              · exact h2.grown hg h2.size (fun k hk => own_ge O1 k hk)
            have O7 : Hid (w7.ownsRow w5.heap.size 34 2 v' (K + 1) (ratCk (gridL N (othX l') ((N : Int) + 1)) (K + 1))) := by
              show w7.ownsRow _ _ _ _ _ _
              rw [RN.out]
              exact hown
            clear hown hgrow O1 B1 O B RN
            go_wp2_with fail
            go_roundw
            case rel => exact ⟨K + 1, v', by omega, rfl, by go_num, O7, B7⟩
            case measure => simp [intOf]; omega
        · have eK : K = N := by omega
          have k0 : ¬ (K : Int) < (N : Int) := by omega
          have O2 := O.out
          rw [eK] at O2
          obtain ⟨ad2, cap2, rfl, h1, h2, h3⟩ := own_ratV (n := N) (L := gridL N (othX l') ((N : Int) + 1)) rfl O2
          have HI2 := hideD (fun W (hb : Below wr.heap.size wr W) => HM.out W ad2 cap2 (beyondD (beyondD B5.out B.out) hb) h1 (h2.later hb))
          have VM := hideD h2
          have VL := hideD (V5.out.later B.out)
          have BW := hideD (beyondD B2.out (beyondD B5.out B.out))
          clear O O2 eK h1 h2 h3 HM V5 O5 B5 B B2
          go_wp2_with fail
          go_loopw [18] (fun s wq => ∃ (J : Nat), J ≤ N ∧ s = .int .i64 (J : Int) ∧ Hid (Below wr.heap.size wr wq)) (fun s _ => N - (intOf s).toNat)
          case atStart => exact ⟨0, Nat.zero_le _, rfl, Below.refl _ _⟩
          case round =>
            obtain ⟨J, hJ, rfl, B⟩ := hrel
            by_cases cj : J < N
            · obtain ⟨gm, om, rfl, m0, m1⟩ := VM.out J cj
              obtain ⟨gb, off, rfl, l0, l1⟩ := VL.out J cj
              have j0 : (J : Int) < (N : Int) := by omega
              have j00 : (0 : Int) ≤ (J : Int) := by omega
              have H2 := hideD (fun W (hb : Below wr.heap.size wr W) => HI2.out W (beyondD B.out hb))
              have m0 := kc _ _ B.out m0
              have m1 := kc _ _ B.out m1
              have l0 := kc _ _ B.out l0
              have l1 := kc _ _ B.out l1
              obtain ⟨lr, lp, -, li, li'⟩ := LD.out J cj
              obtain ⟨-, mr, -, mp, -, mi, mi'⟩ := newT_small (u := othX l' J) (g := (N : Int) + 1) (OX.out J).1 (by have := (OX.out J).2; omega) (by omega) (by omega)
              have HC := hideD (fun W => compare_right _ _ _ _ W mi mi' li li' (okR_iff.1 mr).1 (okR_iff.1 lr).1)
              have nl : inB N ((N + 1) * (N + 1)) c (gridL N (othX l') ((N : Int) + 1)) = true → ¬ cmpV (newT (othX l' J) ((N : Int) + 1)).1 (newT (othX l' J) ((N : Int) + 1)).2.1 ((gridL N (unitsF N c) ((N : Int) + 1)).n J) ((gridL N (unitsF N c) ((N : Int) + 1)).d J) < 0 := fun h => Int.not_lt.2 (by have := NL.out h J cj; first | exact this | exact Int.not_lt.1 this)
              have m0 : wr.cell? ⟨gm, om + J * 2, none⟩ = some (.int .i64 (newT (othX l' J) ((N : Int) + 1)).1) := m0
              have m1 : wr.cell? ⟨gm, om + J * 2 + 1, none⟩ = some (.int .i64 (newT (othX l' J) ((N : Int) + 1)).2.1) := m1
              clear lr lp li li' mr mp mi mi'
              generalize cmpV (newT (othX l' J) ((N : Int) + 1)).1 (newT (othX l' J) ((N : Int) + 1)).2.1 ((gridL N (unitsF N c) ((N : Int) + 1)).n J) ((gridL N (unitsF N c) ((N : Int) + 1)).d J) = q at *
              generalize (newT (othX l' J) ((N : Int) + 1)).1 = a0 at *
              generalize (newT (othX l' J) ((N : Int) + 1)).2.1 = a1 at *
              generalize (gridL N (unitsF N c) ((N : Int) + 1)).n J = b0 at *
              generalize (gridL N (unitsF N c) ((N : Int) + 1)).d J = b1 at *
              cases r : inB N ((N + 1) * (N + 1)) c (gridL N (othX l') ((N : Int) + 1)) with
              | false =>
                rw [r] at H2
                clear nl r
                go_upto_region 24 with (fail)
                go_cut [124] (fun t wz => t = .bool false ∧ Below wr.heap.size wr wz)
                case first =>
                  refine wp_region_noPanic ?_
                  refine wp_region_held_drew (S := fun w' => Below wr.heap.size wr w') (by kernel_rfl) ?_ (fun hHeld => ?_)
                  · exact (Below.refl _ _).drew
                  refine wpAnyH_take (i := 0) (oi := ⟨_, _, _, _, _, _⟩) (v := ?_) rfl (by kernel_rfl) (by kernel_rfl) (by kernel_rfl) (fun _ _ _ h => h) (Or.inl ⟨by rfl, ?_⟩) (by assumption) ?_
                  rotate_left
                  · intro w hSw; (try dsimp only at hSw); first | (go_simp; done) | (go_simp; with_reducible rfl)
                  try simp only [Act.put, List.setIfInBounds_toArray, List.set_cons_zero, List.set_cons_succ]
                  refine wpAnyH_take (i := 1) (oi := ⟨_, _, _, _, _, _⟩) (v := ?_) rfl (by kernel_rfl) (by kernel_rfl) (by kernel_rfl) (fun _ _ _ h => h) (Or.inl ⟨by rfl, ?_⟩) (by assumption) ?_
                  rotate_left
                  · intro w hSw; (try dsimp only at hSw); first | (go_simp; done) | (go_simp; with_reducible rfl)
                  try simp only [Act.put, List.setIfInBounds_toArray, List.set_cons_zero, List.set_cons_succ]
                  refine wpAnyH_ready (rs := [2]) (by kernel_rfl) (by simp) ?_
                  refine AllReadyH.cons (o := ⟨_, _, _, _, _, _⟩) rfl (fun K hK => ?_) AllReadyH.nil
                  go_simp
                  go_at_call 9
                  refine (H2.out _ (by assumption)).mono ?_
                  rintro e' w8 ⟨rfl, hb⟩
                  have hn := beyondD hHeld hb
                  clear hb
                  try go_wp2_with fail
                  refine hK.out _ _ ?_ (fun hHeld => ?_)
                  · exact hn
                  clear hK K hn
                  try simp only [Act.put, List.setIfInBounds_toArray, List.set_cons_zero, List.set_cons_succ]
                  refine wpAnyH_take (i := 3) (oi := ⟨_, _, _, _, _, _⟩) (v := ?_) rfl (by kernel_rfl) (by kernel_rfl) (by kernel_rfl) (fun _ _ _ h => h) (Or.inl ⟨by rfl, ?_⟩) (by assumption) ?_
                  rotate_left
                  · intro w hSw; (try dsimp only at hSw); first | (go_simp; done) | (go_simp; with_reducible rfl)
                  try simp only [Act.put, List.setIfInBounds_toArray, List.set_cons_zero, List.set_cons_succ]
                  refine wpAnyH_take (i := 4) (oi := ⟨_, _, _, _, _, _⟩) (v := undef) rfl (by kernel_rfl) (by kernel_rfl) (by kernel_rfl) (fun _ _ _ h => h) (Or.inr ⟨by rfl, rfl⟩) (by assumption) ?_
                  try simp only [Act.put, List.setIfInBounds_toArray, List.set_cons_zero, List.set_cons_succ]
                  refine wpAnyH_take (i := 5) (oi := ⟨_, _, _, _, _, _⟩) (v := undef) rfl (by kernel_rfl) (by kernel_rfl) (by kernel_rfl) (fun _ _ _ h => h) (Or.inr ⟨by rfl, rfl⟩) (by assumption) ?_
                  try simp only [Act.put, List.setIfInBounds_toArray, List.set_cons_zero, List.set_cons_succ]
                  refine wpAnyH_take (i := 6) (oi := ⟨_, _, _, _, _, _⟩) (v := undef) rfl (by kernel_rfl) (by kernel_rfl) (by kernel_rfl) (fun _ _ _ h => h) (Or.inr ⟨by rfl, rfl⟩) (by assumption) ?_
                  try simp only [Act.put, List.setIfInBounds_toArray, List.set_cons_zero, List.set_cons_succ]
                  refine wpAnyH_take (i := 7) (oi := ⟨_, _, _, _, _, _⟩) (v := undef) rfl (by kernel_rfl) (by kernel_rfl) (by kernel_rfl) (fun _ _ _ h => h) (Or.inr ⟨by rfl, rfl⟩) (by assumption) ?_
                  try simp only [Act.put, List.setIfInBounds_toArray, List.set_cons_zero, List.set_cons_succ]
                  refine wpAnyH_take (i := 8) (oi := ⟨_, _, _, _, _, _⟩) (v := undef) rfl (by kernel_rfl) (by kernel_rfl) (by kernel_rfl) (fun _ _ _ h => h) (Or.inr ⟨by rfl, rfl⟩) (by assumption) ?_
                  try simp only [Act.put, List.setIfInBounds_toArray, List.set_cons_zero, List.set_cons_succ]
                  refine wpAnyH_take (i := 9) (oi := ⟨_, _, _, _, _, _⟩) (v := undef) rfl (by kernel_rfl) (by kernel_rfl) (by kernel_rfl) (fun _ _ _ h => h) (Or.inr ⟨by rfl, rfl⟩) (by assumption) ?_
                  try simp only [Act.put, List.setIfInBounds_toArray, List.set_cons_zero, List.set_cons_succ]
                  refine wpAnyH_take (i := 10) (oi := ⟨_, _, _, _, _, _⟩) (v := undef) rfl (by kernel_rfl) (by kernel_rfl) (by kernel_rfl) (fun _ _ _ h => h) (Or.inr ⟨by rfl, rfl⟩) (by assumption) ?_
                  try simp only [Act.put, List.setIfInBounds_toArray, List.set_cons_zero, List.set_cons_succ]
                  refine wpAnyH_take (i := 11) (oi := ⟨_, _, _, _, _, _⟩) (v := undef) rfl (by kernel_rfl) (by kernel_rfl) (by kernel_rfl) (fun _ _ _ h => h) (Or.inr ⟨by rfl, rfl⟩) (by assumption) ?_
                  try simp only [Act.put, List.setIfInBounds_toArray, List.set_cons_zero, List.set_cons_succ]
                  refine wpAnyH_take (i := 12) (oi := ⟨_, _, _, _, _, _⟩) (v := undef) rfl (by kernel_rfl) (by kernel_rfl) (by kernel_rfl) (fun _ _ _ h => h) (Or.inr ⟨by rfl, rfl⟩) (by assumption) ?_
                  try simp only [Act.put, List.setIfInBounds_toArray, List.set_cons_zero, List.set_cons_succ]
                  refine wpAnyH_take (i := 13) (oi := ⟨_, _, _, _, _, _⟩) (v := undef) rfl (by kernel_rfl) (by kernel_rfl) (by kernel_rfl) (fun _ _ _ h => h) (Or.inr ⟨by rfl, rfl⟩) (by assumption) ?_
                  try simp only [Act.put, List.setIfInBounds_toArray, List.set_cons_zero, List.set_cons_succ]
                  refine wpAnyH_take (i := 14) (oi := ⟨_, _, _, _, _, _⟩) (v := ?_) rfl (by kernel_rfl) (by kernel_rfl) (by kernel_rfl) (fun _ _ _ h => h) (Or.inl ⟨by rfl, ?_⟩) (by assumption) ?_
                  rotate_left
                  · intro w hSw; (try dsimp only at hSw); first | (go_simp; done) | (go_simp; with_reducible rfl)
                  try simp only [Act.put, List.setIfInBounds_toArray, List.set_cons_zero, List.set_cons_succ]
                  refine wpAnyH_done (by kernel_rfl) ?_ _
                  refine NoPanic.normal ?_
                  go_wp2_with fail
                  go_meet
                  exact ⟨rfl, by assumption⟩
                case rest =>
                  obtain ⟨rfl, hb8⟩ := hcut
                  have B8 := hideD (beyondD B.out hb8)
                  go_wp2_with fail
                  go_roundw
                  case rel => exact ⟨J + 1, by omega, by go_num, B8⟩
                  case measure => simp [intOf]; omega
              | true =>
                rw [r] at H2
                have q0 := nl r
                clear nl r
                go_upto_region 24 with (fail)
                have B2 := Below.refl wr.heap.size wr
                go_region_held3 (fun w' => Below wr.heap.size wr w' ∧ w'.cell? ⟨gm, om + J * 2, none⟩ = some (.int .i64 a0) ∧ w'.cell? ⟨gm, om + J * 2 + 1, none⟩ = some (.int .i64 a1) ∧ w'.cell? ⟨gb, off + J * 2, none⟩ = some (.int .i64 b0) ∧ w'.cell? ⟨gb, off + J * 2 + 1, none⟩ = some (.int .i64 b1))
                  (first | exact ⟨by first | with_reducible assumption | (apply Below.drew; with_reducible assumption), by first | with_reducible assumption | assumption, by first | with_reducible assumption | assumption, by first | with_reducible assumption | assumption, by first | with_reducible assumption | assumption⟩ | go_keep)
                  (first
                    | (go_at_call 9; refine (H2.out _ (by first | with_reducible assumption | (apply Below.drew; with_reducible assumption))).mono ?_; rintro e w8 ⟨rfl, hb⟩; have s4 := beyond (w := wr) (by first | with_reducible assumption | (apply Below.drew; with_reducible assumption)) hb; have s0 := kc ⟨gm, om + J * 2, none⟩ (.int .i64 a0) hb (by first | assumption | simp [go_sem, *]); have s1 := kc ⟨gm, om + J * 2 + 1, none⟩ (.int .i64 a1) hb (by first | assumption | simp [go_sem, *]); have s2 := kc ⟨gb, off + J * 2, none⟩ (.int .i64 b0) hb (by first | assumption | simp [go_sem, *]); have s3 := kc ⟨gb, off + J * 2 + 1, none⟩ (.int .i64 b1) hb (by first | assumption | simp [go_sem, *]); clear hb)
                    | (go_at_call 11; refine (HC.out _).mono ?_; rintro e w9 ⟨rfl, hb⟩; have s9 := beyond (w := wr) (by first | with_reducible assumption | (apply Below.drew; with_reducible assumption)) hb; have z0 := kc ⟨gm, om + J * 2, none⟩ (.int .i64 a0) hb (by first | assumption | simp [go_sem, *]); have z1 := kc ⟨gm, om + J * 2 + 1, none⟩ (.int .i64 a1) hb (by first | assumption | simp [go_sem, *]); have z2 := kc ⟨gb, off + J * 2, none⟩ (.int .i64 b0) hb (by first | assumption | simp [go_sem, *]); have z3 := kc ⟨gb, off + J * 2 + 1, none⟩ (.int .i64 b1) hb (by first | assumption | simp [go_sem, *]); clear hb))
                all_goals
                  have B8 := hideD (beyondD B.out s9)
                  clear B s9 s0 s1 s2 s3 s4 z0 z1 z2 z3 H2 HC
                  go_wp2_with fail
                  go_roundw
                  case rel => exact ⟨J + 1, by omega, by go_num, B8⟩
                  case measure => simp [intOf]; omega
            · have j0 : ¬ (J : Int) < (N : Int) := by omega
              have B9 := hideD (beyondD BW.out B.out)
              clear HI2 VM VL B BW
              go_wp2_with fail
              go_ret
              exact ⟨rfl, B9.out⟩
end Go.Proofs.Ytondgencdcimjaa
