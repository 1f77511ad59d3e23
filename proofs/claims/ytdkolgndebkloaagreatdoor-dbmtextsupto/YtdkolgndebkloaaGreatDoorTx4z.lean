/-
  dbm.read, dbm.Parse.
-/
import Derived.Test.YtdkolgndebkloaaGreatDoorZn
import Derived.Test.YtdkolgndebkloaaGreatDoorZb
namespace Go.Proofs.YtdkolgndebkloaaGreatDoor
open Go.RowKit Go.Shelf
set_option linter.unusedVariables false
set_option maxRecDepth 100000
/-- A zone of the program's behind a pointer. -/
def AtP (w : World) (p : Option Addr) (n : Nat) (c : Row) : Prop := ∃ b, p = some ⟨b, 0, none⟩ ∧ ZoneAt w b n c
set_option maxHeartbeats 8000000 in
theorem readZ_any (s : List UInt8) (w : World) (hlim : s.length ≤ 1048576) (ht : Pow w) (he : Errs w) :
    Calls Tryz.prog 19 #[.string ⟨s.toArray⟩] w fun e w' => (∃ (p : Option Addr) (ok : Bool), e = .returned (.tuple #[.pointer p, .bool ok]) ∧ Hid (ReadIs s (AtP w' p) ok)) ∧ Hid (Below w.heap.size w w') := by
  have HC : Hid (∀ w, Calls Tryz.prog 47 #[.string ⟨s.toArray⟩, .string ⟨#[58]⟩] w fun e w' => e = .returned (.tuple #[.string ⟨(cutB 58 s).1.toArray⟩, .string ⟨(cutB 58 s).2.1.toArray⟩, .bool (cutB 58 s).2.2]) ∧ Below w.heap.size w w') := fun w => cutB_any 58 ⟨s.toArray⟩ w (by simp [ByteArray.size]; omega)
  have hl1 := cutB_len 58 s
  have HR := hideD (fun w ht he => read_any ⟨(cutB 58 s).1.toArray⟩ w (by simp [ByteArray.size]; omega) ht he)
  have RN : Hid (∀ Z, ¬ (readS (cutB 58 s).1 = true ∧ 0 ≤ readN (cutB 58 s).1 ∧ readN (cutB 58 s).1 ≤ 8) → ReadIs s Z false) := fun Z h => read_none h
  have RE : Hid (∀ (N : Nat) Z, readN (cutB 58 s).1 = N → N ≤ 8 → (cutB 58 s).2.1 = [32, 101, 109, 112, 116, 121] → Z N (fun _ => 0) → ReadIs s Z true) := fun N Z h1 h2 h3 h4 => read_empty h1 h2 h3 h4
  have RS : Hid (∀ (N : Nat), readN (cutB 58 s).1 = N → N ≤ 8 → (cutB 58 s).2.1 ≠ [32, 101, 109, 112, 116, 121] → ReadSt s N (cutB 58 s).2.1 (startR N (N + 1) 0)) := fun N h1 h2 h3 => read_start h1 h2 h3
  have RB : Hid (∀ (N : Nat) Z, readN (cutB 58 s).1 = N → (cutB 58 s).2.1 ≠ [32, 101, 109, 112, 116, 121] → (∀ c p, FullC N ((N + 1) * (N + 1)) p c → s ≠ printZ N c) → ReadIs s Z false) := fun N Z h1 h2 h3 => read_bad h1 h2 h3
  have RG : Hid (∀ (N : Nat) (d : Row) Z, readN (cutB 58 s).1 = N → N ≤ 8 → (cutB 58 s).2.1 ≠ [32, 101, 109, 112, 116, 121] → ZC N ((N + 1) * (N + 1)) d → Z N d → (∀ c p, FullC N ((N + 1) * (N + 1)) p c → s = printZ N c → d = c) → ReadIs s Z true) := fun N d Z h1 h2 h3 h4 h5 h6 => read_good h1 h2 h3 h4 h5 h6
  have hR0 : (cutB 58 s).2.1.length ≤ 1048576 := by omega
  simp only at HR
  generalize (cutB 58 s).1 = sa at *
  generalize (cutB 58 s).2.1 = R0 at *
  generalize (cutB 58 s).2.2 = sc at *
  generalize readN sa = nn at *
  generalize readS sa = ok at *
  have ht' := hideD ht
  have he' := hideD he
  clear hlim hl1 ht he
  go_enter Tryz.func19, Tryz.ntmps19
  go_wp2_with fail
  refine (HC.out _).mono ?_
  rintro e w1 ⟨rfl, hb1⟩
  have B1 := hideD hb1
  have HR1 := hideD (HR.out w1 (pow_later ht'.out hb1) (errs_later he'.out hb1))
  clear hb1 HC HR
  go_wp2_with fail
  refine HR1.out.mono ?_
  rintro e w2 ⟨rfl, hb2⟩
  have B2 := hideD (beyondD B1.out hb2)
  clear hb2 HR1 B1
  by_cases hok : ok = true ∧ 0 ≤ nn ∧ nn ≤ 8
  · obtain ⟨rfl, n0, n8⟩ := hok
    obtain ⟨N, rfl⟩ := Int.eq_ofNat_of_zero_le n0
    have h8 : N ≤ 8 := by omega
    clear RN
    have c1 : ¬ ((8 : Int) < (N : Int)) := by omega
    by_cases hem : R0 = [32, 101, 109, 112, 116, 121]
    · have HN := hideD (none_any N w2)
      have RE' := hideD (fun Z => RE.out N Z rfl h8 hem)
      subst hem
      clear RE RS RB RG
      go_wp2_with fail
      refine HN.out.mono ?_
      rintro e w3 ⟨rfl, hz, hb3, -⟩
      have F : Hid (ReadIs s (AtP w3 (some ⟨w2.heap.size, 0, none⟩)) true) := RE'.out _ ⟨_, rfl, hz⟩
      have B3 := hideD (beyondD B2.out hb3)
      clear hz hb3 HN RE'
      go_wp2_with fail
      exact bodyPost_ret (v := .tuple #[.pointer (some ⟨w2.heap.size, 0, none⟩), .bool true]) (by simp [results, Tryz.results19, go_sem]) rfl ⟨⟨_, _, rfl, F⟩, B3⟩
    · have hem' : (R0 == [32, 101, 109, 112, 116, 121]) = false := by simpa using hem
      have HD := hideD (draftOf_any N w2 h8)
      have S0 := hideD (RS.out N rfl h8 hem)
      have RB' := hideD (fun Z => RB.out N Z rfl hem)
      have RG' := hideD (fun d Z => RG.out N d Z rfl h8 hem)
      have HZ : Hid (∀ b r w, Draft w b N r → Calls Tryz.prog 43 #[.pointer (some ⟨b, 0, none⟩)] w fun e w' => ZoneOut w' w.heap.size N e (zoneR N r) ∧ Below b w w') := fun b r w hD => zone_any b N r w h8 hD
      have H8 := hideD h8
      clear RE RS RB RG hem
      go_wp2_with fail
      refine HD.out.mono ?_
      rintro e w3 ⟨rfl, hd, hb3⟩
      have D3 := hideD hd
      have B3 := hideD (beyondD B2.out hb3)
      have SZ : Hid (w.heap.size ≤ w2.heap.size) := B2.out.size
      clear hd hb3 HD B2 hem'
      generalize w2.heap.size = d at *
      go_wp2_with fail
      go_loopg [5] R0.length (fun g' v wr => ∃ (R : List UInt8) (r : Mat), v = .string ⟨R.toArray⟩ ∧ g' = R.length ∧ R.length ≤ 1048576 ∧ Hid (ReadSt s N R r) ∧ Hid (Draft wr d N r) ∧ Hid (Below w.heap.size w wr))
      case atStart => exact ⟨R0, _, rfl, rfl, hR0, S0, D3, B3⟩
      case round =>
        obtain ⟨R, r, rfl, rfl, hR, hS, hD, hB⟩ := hrel
        clear S0 D3 B3 hR0
        cases R with
        | nil =>
          have DN := hideD (hS.out.done H8.out)
          have FT := hideD hS.out.fit
          have HZ1 := hideD (HZ.out d r wr hD.out)
          cases ez : zoneR N r with
          | none =>
            rw [ez] at HZ1
            have F : Hid (ReadIs s (fun _ _ => False) false) := RB'.out _ (fun c p hp e => by have := DN.out c p hp e; rw [ez] at this; cases this)
            clear ez RB' RG' HZ
            go_wp2_with fail
            refine HZ1.out.mono ?_
            rintro e w4 ⟨hz, hb4⟩
            obtain rfl : e = .returned (.tuple #[.pointer none, .int .i64 10]) := hz
            have B4 : Hid (Below w.heap.size w w4) := hB.out.trans (hb4.mono SZ.out)
            clear hb4 HZ1
            go_wp2_with fail
            exact bodyPost_ret (v := .tuple #[.pointer none, .bool false]) (by simp [results, Tryz.results19, go_sem]) rfl ⟨⟨_, _, rfl, ⟨fun q => (by cases q), fun n c hn hz e => ((F.out.2 n c hn hz e).2).elim⟩⟩, B4⟩
          | some c0 =>
            rw [ez] at HZ1
            have EZ := hideD ez
            clear ez RB' HZ
            go_wp2_with fail
            refine HZ1.out.mono ?_
            rintro e w4 ⟨⟨b', hb', rfl, hz⟩, hb4⟩
            have B4 : Hid (Below w.heap.size w w4) := hB.out.trans (hb4.mono SZ.out)
            have F : Hid (ReadIs s (AtP w4 (some ⟨b', 0, none⟩)) true) := RG'.out c0 _ (zc_of H8.out rfl FT.out.ok FT.out.low EZ.out) ⟨_, rfl, hz⟩ (fun c p hp e => by have := DN.out c p hp e; rw [EZ.out] at this; cases this; rfl)
            clear hb4 HZ1 hz hb' RG'
            go_wp2_with fail
            exact bodyPost_ret (v := .tuple #[.pointer (some ⟨b', 0, none⟩), .bool true]) (by simp [results, Tryz.results19, go_sem]) rfl ⟨⟨_, _, rfl, F⟩, B4⟩
        | cons x T =>
          by_cases hx : x = 32
          · subst hx
            have H1 := hideD (cut_yes ⟨(32 :: T).toArray⟩ [32] T wr (by simp))
            have H2 : Hid (Calls Tryz.prog 51 #[.string ⟨T.toArray⟩, .int .u8 32] wr fun e w' => e = .returned (.int .i64 (Lib.indexByte T 32)) ∧ w' = wr) := ilow_any T 32 wr
            have ne : ((32 :: T : List UInt8) == []) = false := rfl
            rcases cutB_index 32 T with ⟨hi, -⟩ | ⟨k, hi, hk, -⟩
            · rw [hi] at H2
              have hsp : spT T = (T, []) := by unfold spT; rw [if_pos hi]
              have D4 := hD
              clear hi hD
              go_wp2_with fail
              refine H1.out.mono ?_
              rintro e w4 ⟨rfl, rfl⟩
              go_wp2_with fail
              refine H2.out.mono ?_
              rintro e w5 ⟨rfl, rfl⟩
              clear H1 H2
              have HT := hideD (rterm_any T w5 (by have := hR; simp at this; omega) (pow_later ht'.out hB.out) (errs_later he'.out hB.out))
              go_wp2_with fail
              refine HT.out.mono ?_
              rintro e w5 ⟨⟨i, j, b, ok, rfl, hT⟩, hb5⟩
              have D5 := hideD (D4.out.later hb5.out D4.out.lt)
              have B5 := hideD (beyondD hB.out hb5.out)
              have TM := hideD (hS.out.term (i := i) (j := j) (b := b) (ok := ok) H8.out (by rw [hsp]; exact hT.out))
              have NX : Hid (ok = true → ReadSt s N [] (tg r i.toNat j.toNat b) ∧ rightB b = true) := fun h => (by
                subst h
                have := hS.out.next (i := i) (j := j) (b := b) H8.out (by rw [hsp]; exact hT.out)
                rw [hsp] at this
                exact ⟨this, hT.out.1 rfl⟩)
              clear HT hb5 hT hS D4 hsp
              have ba := below_one w5 (.cells #[.int .i64 i, .int .i64 j, .int .i32 b] 49)
              have f0 : (w5.alloc (.cells #[.int .i64 i, .int .i64 j, .int .i32 b] 49)).cell? ⟨w5.heap.size, 0, none⟩ = some (.int .i64 i) := by simp [go_sem]
              have f1 : (w5.alloc (.cells #[.int .i64 i, .int .i64 j, .int .i32 b] 49)).cell? ⟨w5.heap.size, 1, none⟩ = some (.int .i64 j) := by simp [go_sem]
              have f2 : (w5.alloc (.cells #[.int .i64 i, .int .i64 j, .int .i32 b] 49)).cell? ⟨w5.heap.size, 2, none⟩ = some (.int .i32 b) := by simp [go_sem]
              have D6 := hideD (D5.out.later ba D5.out.lt)
              have B6 := hideD (beyondD B5.out ba)
              have d0 := D6.out.clocks
              cases ok with
              | false =>
                have F : Hid (ReadIs s (fun _ _ => False) false) := RB'.out _ (fun c p hp e => by have := (TM.out c p hp e).1; cases this)
                clear RB' RG' HZ TM NX
                go_upto_region 17 with (fail)
                generalize w5.alloc (.cells #[.int .i64 i, .int .i64 j, .int .i32 b] 49) = W2 at *
                generalize w5.heap.size = Bk at *
                go_quiet (fail)
                go_wp2_with fail
                exact bodyPost_ret (v := .tuple #[.pointer none, .bool false]) (by simp [results, Tryz.results19, go_sem]) rfl ⟨⟨_, _, rfl, ⟨fun q => (by cases q), fun n c hn hz e => ((F.out.2 n c hn hz e).2).elim⟩⟩, below_drewN B6.out _⟩
              | true =>
                have HH := hideD (fun w => has_any N i j w)
                by_cases hin : 0 ≤ i ∧ i ≤ (N : Int) ∧ 0 ≤ j ∧ j ≤ (N : Int)
                · rw [decide_eq_true hin] at HH
                  obtain ⟨I, rfl⟩ := Int.eq_ofNat_of_zero_le hin.1
                  obtain ⟨J, rfl⟩ := Int.eq_ofNat_of_zero_le hin.2.2.1
                  have hI : I ≤ 8 := by have := H8.out; omega
                  have hJ : J ≤ 8 := by have := H8.out; omega
                  obtain ⟨n1, n2⟩ := NX.out rfl
                  have rb := of_decide_eq_true n2
                  have HTg : Hid (∀ w, Draft w d N r → Calls Tryz.prog 42 #[.pointer (some ⟨d, 0, none⟩), .int .i64 I, .int .i64 J, .int .i32 b] w fun e w' => e = .returned (.tuple #[]) ∧ Draft w' d N (tg r I J b) ∧ Below d w w') := fun w hD => tighten_any d N I J r b w hD hI hJ (by omega) (by omega)
                  have N1 : Hid (ReadSt s N [] (tg r I J b)) := n1
                  clear hin hI hJ NX TM n1 n2 rb
                  go_upto_region 17 with (fail)
                  generalize w5.alloc (.cells #[.int .i64 I, .int .i64 J, .int .i32 b] 49) = W2 at *
                  generalize w5.heap.size = Bk at *
                  have X0 := Below.refl W2.heap.size W2
                  go_region_held3 (fun w2 => w2.cell? ⟨d, 0, none⟩ = some (.int .i64 N) ∧ w2.cell? ⟨Bk, 0, none⟩ = some (.int .i64 I) ∧ w2.cell? ⟨Bk, 1, none⟩ = some (.int .i64 J))
                    (first | with_reducible assumption | go_keep)
                    (first
                    | (go_at_call 53; refine (HH.out _).mono ?_; rintro e' w6 ⟨rfl, hb⟩; have s1 := beyondD (w := W2) (by first | assumption | (apply Below.drew; assumption)) hb; have s0 : w6.cell? ⟨d, 0, none⟩ = some (.int .i64 N) ∧ w6.cell? ⟨Bk, 0, none⟩ = some (.int .i64 I) ∧ w6.cell? ⟨Bk, 1, none⟩ = some (.int .i64 J) := ⟨kc _ _ s1 d0, kc _ _ s1 f0, kc _ _ s1 f1⟩; clear hb))
                  all_goals
                    have D7 := hideD (D6.out.later s1 D6.out.lt)
                    have B7 := hideD (beyondD B6.out s1)
                    have g0 := s0.2.1
                    have g1 := s0.2.2
                    have g2 := kc _ _ s1 f2
                    have HT1 := hideD (HTg.out w6 D7.out)
                    clear s0 s1 X0 f0 f1 f2 d0 D6 B6 HTg HH D7 D5 B5 ba
                    go_wp2_with fail
                    refine HT1.out.mono ?_
                    rintro e w7 ⟨rfl, hd7, hb7⟩
                    have D8 := hideD hd7
                    have B8 : Hid (Below w.heap.size w w7) := B7.out.trans (hb7.mono SZ.out)
                    clear hd7 hb7 HT1 B7 g0 g1 g2
                    go_wp2_with fail
                    go_roundg ([] : List UInt8).length
                    case measure => (simp)
                    case rel => exact ⟨[], _, rfl, rfl, by simp, N1, D8, B8⟩
                · rw [decide_eq_false hin] at HH
                  have F : Hid (ReadIs s (fun _ _ => False) false) := RB'.out _ (fun c p hp e => absurd (TM.out c p hp e).2 hin)
                  clear hin NX TM RB' RG' HZ
                  go_upto_region 17 with (fail)
                  generalize w5.alloc (.cells #[.int .i64 i, .int .i64 j, .int .i32 b] 49) = W2 at *
                  generalize w5.heap.size = Bk at *
                  have X0 := Below.refl W2.heap.size W2
                  go_region_held3 (fun w2 => w2.cell? ⟨d, 0, none⟩ = some (.int .i64 N) ∧ w2.cell? ⟨Bk, 0, none⟩ = some (.int .i64 i) ∧ w2.cell? ⟨Bk, 1, none⟩ = some (.int .i64 j))
                    (first | with_reducible assumption | go_keep)
                    (first
                    | (go_at_call 53; refine (HH.out _).mono ?_; rintro e' w6 ⟨rfl, hb⟩; have s1 := beyondD (w := W2) (by first | assumption | (apply Below.drew; assumption)) hb; have s0 : w6.cell? ⟨d, 0, none⟩ = some (.int .i64 N) ∧ w6.cell? ⟨Bk, 0, none⟩ = some (.int .i64 i) ∧ w6.cell? ⟨Bk, 1, none⟩ = some (.int .i64 j) := ⟨kc _ _ s1 d0, kc _ _ s1 f0, kc _ _ s1 f1⟩; clear hb))
                  all_goals
                    have B7 := hideD (beyondD B6.out s1)
                    clear s0 s1 X0 f0 f1 f2 d0 D6 B6 HH D5 B5 ba
                    go_wp2_with fail
                    exact bodyPost_ret (v := .tuple #[.pointer none, .bool false]) (by simp [results, Tryz.results19, go_sem]) rfl ⟨⟨_, _, rfl, ⟨fun q => (by cases q), fun n c hn hz e => ((F.out.2 n c hn hz e).2).elim⟩⟩, B7⟩
            · rw [hi] at H2
              have hsp : spT T = (T.take k, T.drop k) := by unfold spT; rw [if_neg (by omega), hi]; simp
              have e1 : (⟨T.toArray⟩ : ByteArray).extract 0 k = ⟨(T.take k).toArray⟩ := take_bytes ⟨T.toArray⟩ k (by simp [ByteArray.size]; omega)
              have e2 : (⟨T.toArray⟩ : ByteArray).extract k T.length = ⟨(T.drop k).toArray⟩ := by
                have := drop_bytes ⟨T.toArray⟩ k
                simpa [ByteArray.size] using this
              have k0 : (0 : Int) ≤ (k : Int) := by omega
              have k1 : (k : Int) ≤ (T.length : Int) := by omega
              have sz : (⟨T.toArray⟩ : ByteArray).size = T.length := by simp [ByteArray.size]
              clear hi
              go_wp2_with fail
              refine H1.out.mono ?_
              rintro e w3' ⟨rfl, rfl⟩
              go_wp2_with fail
              refine H2.out.mono ?_
              rintro e w4' ⟨rfl, rfl⟩
              clear H1 H2
              go_wp2_with fail
              go_quiet (fail)
              have hB' := hideD (below_drewN hB.out nq)
              have D4 := hideD (hD.out.drewN nq)
              clear hB hD
              have hB := hB'
              clear hB'
              generalize w4'.drewN nq = w4 at *
              have HT := hideD (rterm_any (T.take k) w4 (by have := hR; simp at this; simp; omega) (pow_later ht'.out hB.out) (errs_later he'.out hB.out))
              go_wp2_with fail
              refine HT.out.mono ?_
              rintro e w5 ⟨⟨i, j, b, ok, rfl, hT⟩, hb5⟩
              have D5 := hideD (D4.out.later hb5.out D4.out.lt)
              have B5 := hideD (beyondD hB.out hb5.out)
              have TM := hideD (hS.out.term (i := i) (j := j) (b := b) (ok := ok) H8.out (by rw [hsp]; exact hT.out))
              have NX : Hid (ok = true → ReadSt s N (T.drop k) (tg r i.toNat j.toNat b) ∧ rightB b = true) := fun h => (by
                subst h
                have := hS.out.next (i := i) (j := j) (b := b) H8.out (by rw [hsp]; exact hT.out)
                rw [hsp] at this
                exact ⟨this, hT.out.1 rfl⟩)
              clear HT hb5 hT hS D4 hsp
              have ba := below_one w5 (.cells #[.int .i64 i, .int .i64 j, .int .i32 b] 49)
              have f0 : (w5.alloc (.cells #[.int .i64 i, .int .i64 j, .int .i32 b] 49)).cell? ⟨w5.heap.size, 0, none⟩ = some (.int .i64 i) := by simp [go_sem]
              have f1 : (w5.alloc (.cells #[.int .i64 i, .int .i64 j, .int .i32 b] 49)).cell? ⟨w5.heap.size, 1, none⟩ = some (.int .i64 j) := by simp [go_sem]
              have f2 : (w5.alloc (.cells #[.int .i64 i, .int .i64 j, .int .i32 b] 49)).cell? ⟨w5.heap.size, 2, none⟩ = some (.int .i32 b) := by simp [go_sem]
              have D6 := hideD (D5.out.later ba D5.out.lt)
              have B6 := hideD (beyondD B5.out ba)
              have d0 := D6.out.clocks
              cases ok with
              | false =>
                have F : Hid (ReadIs s (fun _ _ => False) false) := RB'.out _ (fun c p hp e => by have := (TM.out c p hp e).1; cases this)
                clear RB' RG' HZ TM NX
                go_upto_region 17 with (fail)
                generalize w5.alloc (.cells #[.int .i64 i, .int .i64 j, .int .i32 b] 49) = W2 at *
                generalize w5.heap.size = Bk at *
                go_quiet (fail)
                go_wp2_with fail
                exact bodyPost_ret (v := .tuple #[.pointer none, .bool false]) (by simp [results, Tryz.results19, go_sem]) rfl ⟨⟨_, _, rfl, ⟨fun q => (by cases q), fun n c hn hz e => ((F.out.2 n c hn hz e).2).elim⟩⟩, below_drewN B6.out _⟩
              | true =>
                have HH := hideD (fun w => has_any N i j w)
                by_cases hin : 0 ≤ i ∧ i ≤ (N : Int) ∧ 0 ≤ j ∧ j ≤ (N : Int)
                · rw [decide_eq_true hin] at HH
                  obtain ⟨I, rfl⟩ := Int.eq_ofNat_of_zero_le hin.1
                  obtain ⟨J, rfl⟩ := Int.eq_ofNat_of_zero_le hin.2.2.1
                  have hI : I ≤ 8 := by have := H8.out; omega
                  have hJ : J ≤ 8 := by have := H8.out; omega
                  obtain ⟨n1, n2⟩ := NX.out rfl
                  have rb := of_decide_eq_true n2
                  have HTg : Hid (∀ w, Draft w d N r → Calls Tryz.prog 42 #[.pointer (some ⟨d, 0, none⟩), .int .i64 I, .int .i64 J, .int .i32 b] w fun e w' => e = .returned (.tuple #[]) ∧ Draft w' d N (tg r I J b) ∧ Below d w w') := fun w hD => tighten_any d N I J r b w hD hI hJ (by omega) (by omega)
                  have N1 : Hid (ReadSt s N (T.drop k) (tg r I J b)) := n1
                  clear hin hI hJ NX TM n1 n2 rb
                  go_upto_region 17 with (fail)
                  generalize w5.alloc (.cells #[.int .i64 I, .int .i64 J, .int .i32 b] 49) = W2 at *
                  generalize w5.heap.size = Bk at *
                  have X0 := Below.refl W2.heap.size W2
                  go_region_held3 (fun w2 => w2.cell? ⟨d, 0, none⟩ = some (.int .i64 N) ∧ w2.cell? ⟨Bk, 0, none⟩ = some (.int .i64 I) ∧ w2.cell? ⟨Bk, 1, none⟩ = some (.int .i64 J))
                    (first | with_reducible assumption | go_keep)
                    (first
                    | (go_at_call 53; refine (HH.out _).mono ?_; rintro e' w6 ⟨rfl, hb⟩; have s1 := beyondD (w := W2) (by first | assumption | (apply Below.drew; assumption)) hb; have s0 : w6.cell? ⟨d, 0, none⟩ = some (.int .i64 N) ∧ w6.cell? ⟨Bk, 0, none⟩ = some (.int .i64 I) ∧ w6.cell? ⟨Bk, 1, none⟩ = some (.int .i64 J) := ⟨kc _ _ s1 d0, kc _ _ s1 f0, kc _ _ s1 f1⟩; clear hb))
                  all_goals
                    have D7 := hideD (D6.out.later s1 D6.out.lt)
                    have B7 := hideD (beyondD B6.out s1)
                    have g0 := s0.2.1
                    have g1 := s0.2.2
                    have g2 := kc _ _ s1 f2
                    have HT1 := hideD (HTg.out w6 D7.out)
                    clear s0 s1 X0 f0 f1 f2 d0 D6 B6 HTg HH D7 D5 B5 ba
                    go_wp2_with fail
                    refine HT1.out.mono ?_
                    rintro e w7 ⟨rfl, hd7, hb7⟩
                    have D8 := hideD hd7
                    have B8 : Hid (Below w.heap.size w w7) := B7.out.trans (hb7.mono SZ.out)
                    clear hd7 hb7 HT1 B7 g0 g1 g2
                    go_wp2_with fail
                    go_roundg (T.drop k).length
                    case measure => (simp; omega)
                    case rel => exact ⟨T.drop k, _, rfl, rfl, by have := hR; simp at this; simp; omega, N1, D8, B8⟩
                · rw [decide_eq_false hin] at HH
                  have F : Hid (ReadIs s (fun _ _ => False) false) := RB'.out _ (fun c p hp e => absurd (TM.out c p hp e).2 hin)
                  clear hin NX TM RB' RG' HZ
                  go_upto_region 17 with (fail)
                  generalize w5.alloc (.cells #[.int .i64 i, .int .i64 j, .int .i32 b] 49) = W2 at *
                  generalize w5.heap.size = Bk at *
                  have X0 := Below.refl W2.heap.size W2
                  go_region_held3 (fun w2 => w2.cell? ⟨d, 0, none⟩ = some (.int .i64 N) ∧ w2.cell? ⟨Bk, 0, none⟩ = some (.int .i64 i) ∧ w2.cell? ⟨Bk, 1, none⟩ = some (.int .i64 j))
                    (first | with_reducible assumption | go_keep)
                    (first
                    | (go_at_call 53; refine (HH.out _).mono ?_; rintro e' w6 ⟨rfl, hb⟩; have s1 := beyondD (w := W2) (by first | assumption | (apply Below.drew; assumption)) hb; have s0 : w6.cell? ⟨d, 0, none⟩ = some (.int .i64 N) ∧ w6.cell? ⟨Bk, 0, none⟩ = some (.int .i64 i) ∧ w6.cell? ⟨Bk, 1, none⟩ = some (.int .i64 j) := ⟨kc _ _ s1 d0, kc _ _ s1 f0, kc _ _ s1 f1⟩; clear hb))
                  all_goals
                    have B7 := hideD (beyondD B6.out s1)
                    clear s0 s1 X0 f0 f1 f2 d0 D6 B6 HH D5 B5 ba
                    go_wp2_with fail
                    exact bodyPost_ret (v := .tuple #[.pointer none, .bool false]) (by simp [results, Tryz.results19, go_sem]) rfl ⟨⟨_, _, rfl, ⟨fun q => (by cases q), fun n c hn hz e => ((F.out.2 n c hn hz e).2).elim⟩⟩, B7⟩
          · have H1 := hideD (cut_no ⟨(x :: T).toArray⟩ [32] wr (fun m e => hx (by simp at e; exact e.1)))
            have F : Hid (ReadIs s (fun _ _ => False) false) := RB'.out _ (hS.out.head (by simp) (fun T' e => hx (by injection e)))
            have ne : ((x :: T : List UInt8) == []) = false := rfl
            clear RB' RG' HZ hS hx
            go_wp2_with fail
            refine H1.out.mono ?_
            rintro e w4 ⟨rfl, rfl⟩
            clear H1
            go_wp2_with fail
            exact bodyPost_ret (v := .tuple #[.pointer none, .bool false]) (by simp [results, Tryz.results19, go_sem]) rfl ⟨⟨_, _, rfl, ⟨fun q => (by cases q), fun n c hn hz e => ((F.out.2 n c hn hz e).2).elim⟩⟩, hB⟩
  · have F := hideD (RN.out (fun _ _ => False) hok)
    have FF : Hid (∀ w' p, ReadIs s (AtP w' p) false) := fun w' p => ⟨fun q => (by cases q), fun n c hn hz e => ((F.out.2 n c hn hz e).2).elim⟩
    clear RN RE RS RB RG F
    cases ok
    · clear hok
      go_wp2_with fail
      exact bodyPost_ret (v := .tuple #[.pointer none, .bool false]) (by simp [results, Tryz.results19, go_sem]) rfl ⟨⟨_, _, rfl, FF.out _ _⟩, B2⟩
    · by_cases n0 : nn < 0
      · clear hok
        go_wp2_with fail
        exact bodyPost_ret (v := .tuple #[.pointer none, .bool false]) (by simp [results, Tryz.results19, go_sem]) rfl ⟨⟨_, _, rfl, FF.out _ _⟩, B2⟩
      · have n8 : 8 < nn := by simp at hok; omega
        clear hok
        go_wp2_with fail
        exact bodyPost_ret (v := .tuple #[.pointer none, .bool false]) (by simp [results, Tryz.results19, go_sem]) rfl ⟨⟨_, _, rfl, FF.out _ _⟩, B2⟩
end Go.Proofs.YtdkolgndebkloaaGreatDoor
