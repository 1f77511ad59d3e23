/-
  The document's Parse of zones.
-/
import Derived.Test.YtdkolgndebkloaaGreatDoorTx8z
namespace Go.Proofs.YtdkolgndebkloaaGreatDoor
open Go.RowKit Go.Shelf
set_option linter.unusedVariables false
set_option maxRecDepth 100000
/-- A text is one of a zone, and that zone is answered; or it is of none. -/
def RPOut (s : List UInt8) (w' : World) (e : Ending) : Prop := (∃ n c b B, n ≤ 8 ∧ ZC n ((n + 1) * (n + 1)) c ∧ s = printZ n c ∧ e = .returned (.tuple #[.pointer (some ⟨b, 0, none⟩), .int .i64 0]) ∧ RZone w' B b n (listOf c ((n + 1) * (n + 1)))) ∨ (¬ IsText s ∧ e = errOf 7)
theorem zc_print {n m : Nat} {c : Row} (hm : m = (n + 1) * (n + 1)) (h : ZC n m c) : c 0 = 0 ∨ c 0 = 1 := by
  rcases h with rfl | ⟨p, hp⟩
  · exact .inl rfl
  · exact .inr (hp.zero hm)
set_option maxHeartbeats 8000000 in
theorem rparseZ_any (S : ByteArray) (w : World) (hlim : S.size ≤ 1048576) (ht : Pow w) :
    Calls Tryz.prog 6 #[.string S] w fun e w' => RPOut S.data.toList w' e ∧ Hid (Below w.heap.size w w') := by
  have hs : (S.size : Int) ≤ 1048576 := by omega
  by_cases hH : 2 ≤ S.size ∧ (∃ q : 0 < S.size, 48 ≤ (S[0].toNat : Int)) ∧ (∃ q : 0 < S.size, (S[0].toNat : Int) ≤ 56) ∧ (∃ q : 1 < S.size, (S[1].toNat : Int) = 58)
  · obtain ⟨s2, ⟨q0, d0⟩, ⟨q0', d1⟩, ⟨q1, d2⟩⟩ := hH
    have HY := head_yes q1 d0 d1 d2
    obtain ⟨N, hN⟩ : ∃ N, S[0].toNat - 48 = N := ⟨_, rfl⟩
    have h8 : N ≤ 8 := by omega
    have eN : (S[0].toNat : Int) - 48 = N := by omega
    rw [hN] at HY
    obtain ⟨eR, eH⟩ := head_reads h8 HY
    have v0 : IntKind.i64.wrap (S[0].toNat : Int) = (S[0].toNat : Int) := by rw [IntKind.wrap_i64]; omega
    have y0 : IntKind.i64.wrap ((S[0].toNat : Int) - 48) = (N : Int) := by rw [IntKind.wrap_i64]; omega
    have d0' : ¬ (S[0].toNat : Int) < 48 := by omega
    have d1' : ¬ (56 : Int) < (S[0].toNat : Int) := by omega
    have s2' : ¬ (S.size : Int) < 2 := by omega
    have p0 : (0 : Int) < (S.size : Int) := by omega
    have p1 : (1 : Int) < (S.size : Int) := by omega
    have p2 : (2 : Int) ≤ (S.size : Int) := by omega
    have HE := hideD (empty1_raw N _ w h8 rfl)
    have ED : (S.extract 2 S.size).toList = S.data.toList.drop 2 := by rw [ByteArray.toList_eq, drop_of]
    have HP := hideD ht
    have H8 := hideD h8
    clear hN eN d0 d1 ht
    by_cases em : S.data.toList.drop 2 = [32, 101, 109, 112, 116, 121]
    · have em' : ((S.extract 2 S.size).toList == [32, 101, 109, 112, 116, 121]) = true := by rw [ED, em]; rfl
      have ep : S.data.toList = printZ N (fun _ => 0) := by
        rw [HY, em]
        simp [printZ, headS]
      have eS : (⟨(printZ N (fun _ => 0)).toArray⟩ : ByteArray) = S := by rw [← ep]
      have HPr : Hid (∀ b B w', RZone w' B b N (List.replicate ((N + 1) * (N + 1)) 0) → Pow w' → Calls Tryz.prog 9 #[.pointer (some ⟨b, 0, none⟩)] w' fun e w'' => e = .returned (.string S) ∧ Below w'.heap.size w' w'') := fun b B w' hz hp => by
        rw [← list_empty] at hz
        have := rprintZ_any b N _ B (fun _ => 0) w' h8 rfl hz (.inl rfl) (fun k => by omega) hp
        rw [eS] at this
        exact this
      have EP := hideD ep
      clear ep eS HY eR eH em ED h8
      go_enter Tryz.func6, Tryz.ntmps6
      go_wp2_with fail
      refine HE.out.mono ?_
      rintro e w1 ⟨⟨b, rfl, hz⟩, hb⟩
      have HP1 := hideD (HPr.out b _ w1 hz (pow_later HP.out hb))
      have B1 := hideD hb
      have HZ := hideD hz
      clear hz hb HE HPr
      go_wp2_with fail
      refine HP1.out.mono ?_
      rintro e w2 ⟨rfl, hb2⟩
      have B2 := hideD (beyondD B1.out hb2)
      have Z2 := hideD (HZ.out.past hb2)
      clear hb2 B1 HZ HP1
      go_wp2_with fail
      exact bodyPost_ret (v := .tuple #[.pointer (some ⟨b, 0, none⟩), .int .i64 0]) (by simp [results, Tryz.results6, go_sem]) rfl ⟨.inl ⟨N, fun _ => 0, b, _, H8.out, .inl rfl, EP.out, rfl, by rw [list_empty]; exact Z2.out⟩, B2⟩
    · have em' : ((S.extract 2 S.size).toList == [32, 101, 109, 112, 116, 121]) = false := by rw [ED]; simpa using em
      have S0 : Hid (PSt S.data.toList N 2 L0) := ⟨by
          have := read_start eH h8 (by rw [eR]; exact em)
          rw [eR] at this
          exact this, fun c p hp e => rfl, fun k hk => absurd hk (Nat.not_lt_zero _)⟩
      have NT : Hid ((∀ c p, FullC N ((N + 1) * (N + 1)) p c → S.data.toList ≠ printZ N c) → ¬ IsText S.data.toList) := fun h => readIs_no (Z := fun _ _ => False) (read_bad eH (by rw [eR]; exact em) h)
      have YT : Hid (∀ d, ZC N ((N + 1) * (N + 1)) d → (∀ c p, FullC N ((N + 1) * (N + 1)) p c → S.data.toList = printZ N c → d = c) → IsText S.data.toList → S.data.toList = printZ N d) := fun d zd h => by
        rintro ⟨n', c', h1, h2, h3⟩
        obtain ⟨-, e1, e2⟩ := (read_good (Z := fun n c => n = N ∧ c = d) eH h8 (by rw [eR]; exact em) zd ⟨rfl, rfl⟩ h).2 n' c' h1 h2 h3
        rw [h3, e1, e2]
      have GO := hideD (get_opt S)
      have LN : Hid (S.data.toList.length = S.size) := len_of S
      have DR : Hid (∀ A (h : A < S.size), S.data.toList.drop A = S[A] :: S.data.toList.drop (A + 1)) := fun A h => by
        rw [List.drop_eq_getElem_cons (by rw [len_of]; exact h)]
        rfl
      have EX : Hid (∀ A k, A ≤ k → k ≤ S.size → (S.extract A k).data.toList = (S.data.toList.drop A).take (k - A) ∧ (S.extract A k).size ≤ 1048576) := fun A k h1 h2 => ⟨by simp [ByteArray.data_extract, List.take_drop], by simp; omega⟩
      have BS := hideD (bytes_of S)
      have NEB := hideD (fun a => ne_bytes a S)
      obtain ⟨i0, hi0, hz0, hz1, hz2⟩ := info3 info_lim
      clear HY eR eH em ED h8
      generalize S.data.toList = l at *
      go_enter Tryz.func6, Tryz.ntmps6
      go_wp2_with fail
      refine HE.out.mono ?_
      rintro e w1 ⟨⟨b0, rfl, -⟩, hb⟩
      have B1 := hideD hb
      clear hb HE
      go_wp2_with fail
      go_loopw [6, 7] (fun v t wr => ∃ (A : Nat) (L : Lims), 2 ≤ A ∧ A ≤ S.size ∧ L.q ≤ A ∧ t = .int .i64 A ∧ Hid (PSt l N A L) ∧ Hid (wr.ownsRow w.heap.size 49 3 v L.q (fl L L.q)) ∧ Hid (Below w.heap.size w wr)) (fun _ t _ => S.size - (intOf t).toNat)
      case atStart => exact ⟨2, L0, by omega, by omega, by show 0 ≤ 2; omega, rfl, S0, World.ownsRow_nil _ _ _ _, B1⟩
      case round =>
        obtain ⟨A, L, hA2, hA, hq, rfl, hS, hown, hB⟩ := hrel
        clear S0 B1
        by_cases cA : A < S.size
        · have k1 : (A : Int) < (S.size : Int) := by omega
          have k0 : (0 : Int) ≤ (A : Int) := by omega
          have kw : IntKind.i64.wrap ((A : Int) + 1) = ((A + 1 : Nat) : Int) := by rw [IntKind.wrap_i64]; omega
          have DA := hideD (DR.out A cA)
          generalize S[A] = x0 at DA
          go_wp2_with fail
          generalize hA' : A + 1 = A1 at *
          go_loopw [8] (fun t wr' => ∃ k : Nat, A1 ≤ k ∧ k ≤ S.size ∧ t = .int .i64 k ∧ wr' = wr ∧ Hid (∀ j, A1 ≤ j → j < k → l[j]? ≠ some 32)) (fun t _ => S.size - (intOf t).toNat)
          case atStart => exact ⟨A1, Nat.le_refl _, by omega, by rw [← hA', Int.natCast_add]; rfl, rfl, fun j h1 h2 => (by omega)⟩
          case round =>
            obtain ⟨k, hk1, hk, rfl, rfl, hj⟩ := hrel
            by_cases c : k < S.size
            · have i1 : (k : Int) < (S.size : Int) := by omega
              have i0' : (0 : Int) ≤ (k : Int) := by omega
              by_cases x : (S[k].toNat : Int) = 32
              · have FK : Hid (FirstAt 32 (l.drop A1) (k - A1)) := ⟨by rw [List.length_drop, LN.out]; omega, fun j hjk => by rw [List.getElem?_drop]; exact hj.out _ (by omega) (by omega), fun _ => by
                  rw [List.getElem?_drop, show A1 + (k - A1) = k by omega, GO.out k c]
                  congr 1
                  exact UInt8.toNat_inj.1 (by show _ = 32; omega)⟩
                have SP := hideD (spT_first FK.out)
                have E1 := EX.out A1 k hk1 hk
                have HT := hideD (rlimit_any (S.extract A1 k) wr E1.2 (pow_later HP.out hB.out))
                rw [E1.1] at HT
                have DK : Hid ((spT (l.drop A1)).2 = l.drop k) := by
                  show _ = _
                  rw [SP.out]
                  show (l.drop A1).drop (k - A1) = _
                  rw [List.drop_drop, show A1 + (k - A1) = k by omega]
                have m0 : (0 : Int) ≤ (A1 : Int) := by omega
                have m1 : (A1 : Int) ≤ (k : Int) := by omega
                have m2 : (k : Int) ≤ (S.size : Int) := by omega
                clear hj E1 FK
                go_wp2_with fail
                refine HT.out.mono ?_
                rintro e w4 ⟨⟨i, j, b, ok, rfl, hT⟩, hb4⟩
                have TI : Hid (TermIs (spT (l.drop A1)).1 i j b ok) := by show TermIs _ _ _ _ _; rw [SP.out]; exact hT.out
                have B4 := hideD (beyondD hB.out hb4.out)
                have O4 := hideD (own_past hown.out hb4.out)
                clear HT hT hb4 SP
                have ba := below_one w4 (.cells #[.int .i64 i, .int .i64 j, .int .i32 b] 49)
                have B5 := hideD (beyondD B4.out ba)
                cases ok with
                | false =>
                  have F := hideD (NT.out (hS.out.bad H8.out DA.out TI.out))
                  clear ba O4 NT YT DR EX NEB
                  go_wp2_with fail
                  exact bodyPost_ret (v := .tuple #[.pointer none, .int .i64 7]) (by simp [results, Tryz.results6, go_sem]) rfl ⟨.inr ⟨F.out, rfl⟩, B5⟩
                | true =>
                  have NX := hideD (hS.out.next (k := k) H8.out DA.out DK.out TI.out)
                  have O5 := hideD (own_past O4.out ba)
                  have f0 : (w4.alloc (.cells #[.int .i64 i, .int .i64 j, .int .i32 b] 49)).cell? ⟨w4.heap.size, 0, none⟩ = some (.int .i64 i) := by simp [go_sem]
                  have f1 : (w4.alloc (.cells #[.int .i64 i, .int .i64 j, .int .i32 b] 49)).cell? ⟨w4.heap.size, 1, none⟩ = some (.int .i64 j) := by simp [go_sem]
                  have f2 : (w4.alloc (.cells #[.int .i64 i, .int .i64 j, .int .i32 b] 49)).cell? ⟨w4.heap.size, 2, none⟩ = some (.int .i32 b) := by simp [go_sem]
                  clear ba O4 B4 NT YT DR EX NEB TI
                  go_upto_region 15 with (fail)
                  generalize w4.alloc (.cells #[.int .i64 i, .int .i64 j, .int .i32 b] 49) = W2 at *
                  generalize w4.heap.size = Bk at *
                  have hsz := B5.out.size
                  have HN : Hid (∀ j' u, [Value.int .i64 i, .int .i64 j, .int .i32 b][j']? = some u → (W2.alloc (.cells #[.int .i64 i, .int .i64 j, .int .i32 b] 49)).cell? ((⟨W2.heap.size, 0, none⟩ : Addr).add j') = some u) := by
                    intro j' u hj
                    rw [Addr.add_lit, World.cell?_alloc_at _ _ _ _ rfl]
                    simpa using hj
                  have SQ : Hid ((snocL L i j b).q = L.q + 1 ∧ fl (snocL L i j b) (snocL L i j b).q = fl L L.q ++ [.int .i64 i, .int .i64 j, .int .i32 b]) := ⟨rfl, snoc_fl L i j b⟩
                  generalize snocL L i j b = L' at *
                  generalize hf' : fl L' L'.q = f' at *
                  have HF' := hideD hf'
                  clear hf'
                  generalize fl L L.q = f'' at *
                  generalize L.q = Q at *
                  go_wp2_with (at_builtin; refine wpList_append_own _ rfl _ _ 46 rfl w.heap.size 49 i0 (.agg #[.int .i64 0, .int .i64 0, .int .i32 0]) 3 24 Tryz.underlying46 hi0 hz0 hz1 hz2 rfl (by decide) _ Q f'' rfl (O5.out.alloc _) ⟨W2.heap.size, 0, none⟩ 1 1 [.int .i64 i, .int .i64 j, .int .i32 b] rfl rfl HN.out (fun u hu => by simp at hu; rcases hu with rfl | rfl | rfl <;> rfl) (by unfold maxLen; omega) (by omega) (by simp; omega) ?_; intro v' w5 hown' hgrow hnil)
                  have hb5 : Below w.heap.size w w5 := (B5.out.alloc hsz _).grown hgrow (by simp; omega) (by intro q hq; exact (O5.out.lt q hq).1)
                  have B6 := hideD hb5
                  have own5 : Hid (w5.ownsRow w.heap.size 49 3 v' (L').q (fl L' (L').q)) := by
                    show w5.ownsRow _ _ _ _ _ _
                    rw [HF'.out, SQ.out.1, SQ.out.2]
                    exact hown'
                  clear hown' hgrow hnil hb5 O5 HN B5 f0 f1 f2
                  go_wp2_with fail
                  go_roundw
                  case rel => exact ⟨k, L', by omega, hk, by have := SQ.out.1; omega, rfl, NX, own5, B6⟩
                  case measure => simp [intOf]; omega
              · have nx : Hid (∀ j, A1 ≤ j → j < k + 1 → l[j]? ≠ some 32) := fun j hj1 hjk => (by
                  by_cases e : j = k
                  · subst e
                    rw [GO.out j c]
                    intro e
                    injection e with e
                    rw [e] at x
                    exact x rfl
                  · exact hj.out j hj1 (by omega))
                go_wp2_with fail
                go_roundw
                case rel => exact ⟨k + 1, by omega, by omega, by go_num, trivial, nx⟩
                case measure => simp [intOf]; omega
            · have FK : Hid (FirstAt 32 (l.drop A1) (k - A1)) := ⟨by rw [List.length_drop, LN.out]; omega, fun j hjk => by rw [List.getElem?_drop]; exact hj.out _ (by omega) (by omega), fun h => by
                rw [List.length_drop, LN.out] at h
                omega⟩
              have i1 : ¬ (k : Int) < (S.size : Int) := by omega
              have SP := hideD (spT_first FK.out)
              have E1 := EX.out A1 k hk1 hk
              have HT := hideD (rlimit_any (S.extract A1 k) wr E1.2 (pow_later HP.out hB.out))
              rw [E1.1] at HT
              have DK : Hid ((spT (l.drop A1)).2 = l.drop k) := by
                show _ = _
                rw [SP.out]
                show (l.drop A1).drop (k - A1) = _
                rw [List.drop_drop, show A1 + (k - A1) = k by omega]
              have m0 : (0 : Int) ≤ (A1 : Int) := by omega
              have m1 : (A1 : Int) ≤ (k : Int) := by omega
              have m2 : (k : Int) ≤ (S.size : Int) := by omega
              clear hj E1 FK
              go_wp2_with fail
              refine HT.out.mono ?_
              rintro e w4 ⟨⟨i, j, b, ok, rfl, hT⟩, hb4⟩
              have TI : Hid (TermIs (spT (l.drop A1)).1 i j b ok) := by show TermIs _ _ _ _ _; rw [SP.out]; exact hT.out
              have B4 := hideD (beyondD hB.out hb4.out)
              have O4 := hideD (own_past hown.out hb4.out)
              clear HT hT hb4 SP
              have ba := below_one w4 (.cells #[.int .i64 i, .int .i64 j, .int .i32 b] 49)
              have B5 := hideD (beyondD B4.out ba)
              cases ok with
              | false =>
                have F := hideD (NT.out (hS.out.bad H8.out DA.out TI.out))
                clear ba O4 NT YT DR EX NEB
                go_wp2_with fail
                exact bodyPost_ret (v := .tuple #[.pointer none, .int .i64 7]) (by simp [results, Tryz.results6, go_sem]) rfl ⟨.inr ⟨F.out, rfl⟩, B5⟩
              | true =>
                have NX := hideD (hS.out.next (k := k) H8.out DA.out DK.out TI.out)
                have O5 := hideD (own_past O4.out ba)
                have f0 : (w4.alloc (.cells #[.int .i64 i, .int .i64 j, .int .i32 b] 49)).cell? ⟨w4.heap.size, 0, none⟩ = some (.int .i64 i) := by simp [go_sem]
                have f1 : (w4.alloc (.cells #[.int .i64 i, .int .i64 j, .int .i32 b] 49)).cell? ⟨w4.heap.size, 1, none⟩ = some (.int .i64 j) := by simp [go_sem]
                have f2 : (w4.alloc (.cells #[.int .i64 i, .int .i64 j, .int .i32 b] 49)).cell? ⟨w4.heap.size, 2, none⟩ = some (.int .i32 b) := by simp [go_sem]
                clear ba O4 B4 NT YT DR EX NEB TI
                go_upto_region 15 with (fail)
                generalize w4.alloc (.cells #[.int .i64 i, .int .i64 j, .int .i32 b] 49) = W2 at *
                generalize w4.heap.size = Bk at *
                have hsz := B5.out.size
                have HN : Hid (∀ j' u, [Value.int .i64 i, .int .i64 j, .int .i32 b][j']? = some u → (W2.alloc (.cells #[.int .i64 i, .int .i64 j, .int .i32 b] 49)).cell? ((⟨W2.heap.size, 0, none⟩ : Addr).add j') = some u) := by
                  intro j' u hj
                  rw [Addr.add_lit, World.cell?_alloc_at _ _ _ _ rfl]
                  simpa using hj
                have SQ : Hid ((snocL L i j b).q = L.q + 1 ∧ fl (snocL L i j b) (snocL L i j b).q = fl L L.q ++ [.int .i64 i, .int .i64 j, .int .i32 b]) := ⟨rfl, snoc_fl L i j b⟩
                generalize snocL L i j b = L' at *
                generalize hf' : fl L' L'.q = f' at *
                have HF' := hideD hf'
                clear hf'
                generalize fl L L.q = f'' at *
                generalize L.q = Q at *
                go_wp2_with (at_builtin; refine wpList_append_own _ rfl _ _ 46 rfl w.heap.size 49 i0 (.agg #[.int .i64 0, .int .i64 0, .int .i32 0]) 3 24 Tryz.underlying46 hi0 hz0 hz1 hz2 rfl (by decide) _ Q f'' rfl (O5.out.alloc _) ⟨W2.heap.size, 0, none⟩ 1 1 [.int .i64 i, .int .i64 j, .int .i32 b] rfl rfl HN.out (fun u hu => by simp at hu; rcases hu with rfl | rfl | rfl <;> rfl) (by unfold maxLen; omega) (by omega) (by simp; omega) ?_; intro v' w5 hown' hgrow hnil)
                have hb5 : Below w.heap.size w w5 := (B5.out.alloc hsz _).grown hgrow (by simp; omega) (by intro q hq; exact (O5.out.lt q hq).1)
                have B6 := hideD hb5
                have own5 : Hid (w5.ownsRow w.heap.size 49 3 v' (L').q (fl L' (L').q)) := by
                  show w5.ownsRow _ _ _ _ _ _
                  rw [HF'.out, SQ.out.1, SQ.out.2]
                  exact hown'
                clear hown' hgrow hnil hb5 O5 HN B5 f0 f1 f2
                go_wp2_with fail
                go_roundw
                case rel => exact ⟨k, L', by omega, hk, by have := SQ.out.1; omega, rfl, NX, own5, B6⟩
                case measure => simp [intOf]; omega
        · have nA : ¬ (A : Int) < (S.size : Int) := by omega
          have DN : Hid (∀ c p, FullC N ((N + 1) * (N + 1)) p c → l = printZ N c → zoneR N (tlAll L L.q (startR N (N + 1) 0)) = some c) := by
            have st := hS.out.st
            have e0 : l.drop A = [] := List.drop_eq_nil_of_le (by rw [LN.out]; omega)
            rw [e0] at st
            exact st.done H8.out
          have FT := hideD hS.out.st.fit
          have OKA := hideD hS.out.ok
          have HL := hideD (rlimits_own N _ w.heap.size L _ wr H8.out rfl hown.out hS.out.bd (by omega))
          have HM : Hid ((N + 1) * (N + 1) = (N + 1) * (N + 1)) := rfl
          clear hS hown GO DR EX
          go_wp2_with fail
          refine HL.out.mono ?_
          rintro e w4 ⟨hb4, h4⟩
          have B4 := hideD (beyondD hB.out hb4)
          clear HL hb4 hB
          rcases h4 with ⟨no, rfl⟩ | ⟨-, B', hz⟩
          · have F := hideD (NT.out (fun c p hp e => by rw [OKA.out c p hp e] at no; cases no))
            clear no NT YT OKA NEB DN FT
            go_wp2_with fail
            exact bodyPost_ret (v := .tuple #[.pointer none, .int .i64 7]) (by simp [results, Tryz.results6, go_sem]) rfl ⟨.inr ⟨F.out, rfl⟩, B4⟩
          · cases ez : zoneR N (tlAll L L.q (startR N (N + 1) 0)) with
            | none =>
              rw [ez] at hz
              obtain rfl : e = .returned (.tuple #[.pointer none, .int .i64 10]) := hz
              have F := hideD (NT.out (fun c p hp e => by have := DN.out c p hp e; rw [ez] at this; cases this))
              clear ez NT YT OKA NEB DN FT
              go_wp2_with fail
              exact bodyPost_ret (v := .tuple #[.pointer none, .int .i64 7]) (by simp [results, Tryz.results6, go_sem]) rfl ⟨.inr ⟨F.out, rfl⟩, B4⟩
            | some d =>
              rw [ez] at hz
              obtain ⟨b, rfl, hZ⟩ := hz
              have zd : ZC N ((N + 1) * (N + 1)) d := zc_of H8.out rfl FT.out.ok FT.out.low ez
              have YD := YT.out d zd (fun c p hp e => by have := DN.out c p hp e; rw [ez] at this; cases this; rfl)
              have HPr := hideD (rprintZ_any b N _ B' d w4 H8.out rfl hZ (zc_print rfl zd) (zoneR_32 ez) (pow_later HP.out B4.out))
              by_cases es : l = printZ N d
              · have FZ : Hid (ZC N ((N + 1) * (N + 1)) d ∧ l = printZ N d ∧ RZone w4 B' b N (listOf d ((N + 1) * (N + 1)))) := ⟨zd, es, hZ⟩
                have eS : (⟨(printZ N d).toArray⟩ : ByteArray) = S := by rw [← es]; exact BS.out.symm
                rw [eS] at HPr
                clear ez NT YT OKA NEB DN FT hZ zd YD es eS
                go_wp2_with fail
                refine HPr.out.mono ?_
                rintro e w5 ⟨rfl, hb5⟩
                have B5 := hideD (beyondD B4.out hb5)
                have Z5 := hideD (FZ.out.2.2.past hb5)
                clear hb5 B4 HPr
                go_wp2_with fail
                exact bodyPost_ret (v := .tuple #[.pointer (some ⟨b, 0, none⟩), .int .i64 0]) (by simp [results, Tryz.results6, go_sem]) rfl ⟨.inl ⟨N, d, b, _, H8.out, FZ.out.1, FZ.out.2.1, rfl, Z5.out⟩, B5⟩
              · have F : Hid (¬ IsText l) := fun h => es (YD h)
                have N2 := NEB.out (printZ N d) (fun e => es e.symm)
                generalize (⟨(printZ N d).toArray⟩ : ByteArray) = zz at *
                clear ez NT YT OKA NEB DN FT hZ zd YD es
                go_wp2_with fail
                refine HPr.out.mono ?_
                rintro e w5 ⟨rfl, hb5⟩
                have B5 := hideD (beyondD B4.out hb5)
                clear hb5 B4 HPr
                go_wp2_with fail
                exact bodyPost_ret (v := .tuple #[.pointer none, .int .i64 7]) (by simp [results, Tryz.results6, go_sem]) rfl ⟨.inr ⟨F.out, rfl⟩, B5⟩
  · have F : Hid (¬ IsText S.data.toList) := head_no (by
      by_cases a : S.size < 2
      · exact .inl a
      · by_cases b : (S[0].toNat : Int) < 48
        · exact .inr (.inl ⟨by omega, b⟩)
        · by_cases c : (56 : Int) < (S[0].toNat : Int)
          · exact .inr (.inr (.inl ⟨by omega, c⟩))
          · refine .inr (.inr (.inr ⟨by omega, fun d => hH ⟨by omega, ⟨by omega, by omega⟩, ⟨by omega, by omega⟩, ⟨by omega, d⟩⟩⟩)))
    by_cases a : S.size < 2
    · have a' : (S.size : Int) < 2 := by omega
      clear hH
      go_enter Tryz.func6, Tryz.ntmps6
      go_wp2_with fail
      exact bodyPost_ret (v := .tuple #[.pointer none, .int .i64 7]) (by simp [results, Tryz.results6, go_sem]) rfl ⟨.inr ⟨F.out, rfl⟩, Below.refl _ _⟩
    · have q0 : 0 < S.size := by omega
      have q1 : 1 < S.size := by omega
      have p0 : (0 : Int) < (S.size : Int) := by omega
      have p1 : (1 : Int) < (S.size : Int) := by omega
      have s2' : ¬ (S.size : Int) < 2 := by omega
      by_cases b : (S[0].toNat : Int) < 48
      · clear hH
        go_enter Tryz.func6, Tryz.ntmps6
        go_wp2_with fail
        exact bodyPost_ret (v := .tuple #[.pointer none, .int .i64 7]) (by simp [results, Tryz.results6, go_sem]) rfl ⟨.inr ⟨F.out, rfl⟩, Below.refl _ _⟩
      · by_cases c : (56 : Int) < (S[0].toNat : Int)
        · clear hH
          go_enter Tryz.func6, Tryz.ntmps6
          go_wp2_with fail
          exact bodyPost_ret (v := .tuple #[.pointer none, .int .i64 7]) (by simp [results, Tryz.results6, go_sem]) rfl ⟨.inr ⟨F.out, rfl⟩, Below.refl _ _⟩
        · have d : ¬ (S[1].toNat : Int) = 58 := fun d => hH ⟨by omega, ⟨by omega, by omega⟩, ⟨by omega, by omega⟩, ⟨by omega, d⟩⟩
          clear hH
          go_enter Tryz.func6, Tryz.ntmps6
          go_wp2_with fail
          exact bodyPost_ret (v := .tuple #[.pointer none, .int .i64 7]) (by simp [results, Tryz.results6, go_sem]) rfl ⟨.inr ⟨F.out, rfl⟩, Below.refl _ _⟩
end Go.Proofs.YtdkolgndebkloaaGreatDoor
