/-
  The walk of the statement OpsJoins.
-/
import Derived.Test.YtjmgkbcgaloipaaDoorCfz
import Derived.Test.YtjmgkbcgaloipaaDoorWtz
namespace Go.Proofs.YtjmgkbcgaloipaaDoor
open Go.RowKit
set_option linter.unusedVariables false
set_option maxRecDepth 100000
theorem both4_any (n : Int) (v : Value) (l : List Int) (w : World) (hS : SliceAt w v l) (hi : ∀ j, j < l.length → -2147483648 ≤ l.getD j 0 ∧ l.getD j 0 ≤ 2147483647) (hby : l.length ≤ 9223372036854775807) :
    ∃ o, ZCo o ∧ ∀ w', Below w.heap.size w w' → Calls Tryd.prog 19 #[.int .i64 n, v] w' fun e w'' => (∃ p q, e = .returned (.tuple #[.pointer p, .pointer q]) ∧ Hid (PZ w'' p o) ∧ Hid (RZ w'' q o)) ∧ Hid (Below w'.heap.size w' w'') := by
  obtain ⟨k, o, h1, h2, h3, h4⟩ := two_of n v l w hS hi hby
  refine ⟨o, h3, fun w' hb' => ?_⟩
  have H1 := hideD (h1 w' hb')
  have H2 : Hid (∀ w'', Below w'.heap.size w' w'' → _) := fun w'' hb'' => h2 w'' (beyondD hb' hb'')
  clear h1 h2 hS hi hb'
  go_enter Tryd.func19, Tryd.ntmps19
  go_wp2_with fail
  refine H1.out.mono ?_
  rintro e w1 ⟨⟨p, rfl, hp⟩, hb⟩
  have H3 := hideD (H2.out _ hb.out)
  clear H1 H2
  go_wp2_with fail
  refine H3.out.mono ?_
  rintro e w2 ⟨⟨q, rfl, hq⟩, hb2⟩
  have P2 := hideD (hp.out.past hb2.out)
  have B2 := hideD (beyondD hb.out hb2.out)
  clear H3 hp hb hb2
  go_wp2_with fail
  exact bodyPost_ret (v := .tuple #[.pointer p, .pointer q]) (by simp [results, Tryd.results19, go_sem]) rfl ⟨⟨p, q, rfl, P2, hq⟩, B2⟩
theorem one_ptr (w : World) (p : Option Addr) (T : TypeId) : ∀ j u, [Value.pointer p][j]? = some u → (w.alloc (.cells #[.pointer p] T)).cell? ((⟨w.heap.size, 0, none⟩ : Addr).add j) = some u := by
  intro j u hj
  rw [Addr.add_lit, World.cell?_alloc_at _ _ _ _ rfl]
  simpa using hj
set_option maxHeartbeats 8000000 in
theorem opsJoins.walk (n : Int) (hn : (Lit.int .i64 n).wf = true) (v : Value) (l : List Int) (ad : Option Addr) (len cap : Nat) (K : Nat → Int) (V : Nat → Value) (L : Nat → List Int) (w : World) (ht : Pow w) (hS : SliceAt w v l) (wf : ∀ z ∈ l, (Lit.int .i32 z).wf = true) (hby : l.length * 4 ≤ 140737488355328) (hnil : ∀ {c}, v = .slice none 0 c → c = 0) (hZ : Zss w ad len K V L) (hby2 : len * 32 ≤ 140737488355328) :
    Calls Tryd.prog 6 #[.int .i64 n, v, .slice ad len cap] w fun e w' => e = .returned (.bool true) ∧ Below w.heap.size w w' := by
  obtain ⟨o, ho, hb⟩ := both4_any n v l w hS (wf_cells wf) (by omega)
  have HB := hideD (hb w (Below.refl _ _))
  have HBk : Hid (∀ k, k < len → ∃ o, ZCo o ∧ ∀ w', Below w.heap.size w w' → Calls Tryd.prog 19 #[.int .i64 (K k), V k] w' fun e w'' => (∃ p q, e = .returned (.tuple #[.pointer p, .pointer q]) ∧ Hid (PZ w'' p o) ∧ Hid (RZ w'' q o)) ∧ Hid (Below w'.heap.size w' w'')) := fun k hk => by
    obtain ⟨b, off, -, -, -, h1, h2, h3⟩ := hZ k hk
    exact both4_any (K k) (V k) (L k) w h1 (wf_cells h2) h3
  have HV : Hid (∀ k, k < len → ∃ b off, ad = some ⟨b, off, none⟩ ∧ w.cell? ⟨b, off + k * 2, none⟩ = some (.int .i64 (K k)) ∧ w.cell? ⟨b, off + k * 2 + 1, none⟩ = some (V k)) := fun k hk => by
    obtain ⟨b, off, h1, h2, h3, -⟩ := hZ k hk
    exact ⟨b, off, h1, h2, h3⟩
  have HP := hideD ht
  obtain ⟨i0, hi0, hzz0, hzz1, hzz2⟩ := info3 info_zp
  obtain ⟨j0, hj0, hyy0, hyy1, hyy2⟩ := info3 info_rzp
  have HO := hideD ho
  have len1 : (len : Int) ≤ 140737488355328 := by omega
  clear hb hS wf hnil hby ht hn hZ ho
  go_enter Tryd.func6, Tryd.ntmps6
  go_wp2_with fail
  refine HB.out.mono ?_
  rintro e w1 ⟨⟨p, q, rfl, hp, hq⟩, hb1⟩
  clear HB
  go_wp2_with fail
  go_loopw [9, 10, 11] (fun u v i wr => ∃ (I : Nat) (ps qs : List (Option Addr)) (os : List OZ), I ≤ len ∧ i = .int .i64 (I : Int) ∧ Hid (Rows2 w1 wr u v ps qs os I)) (fun _ _ i _ => len - (intOf i).toNat)
  case atStart => exact ⟨0, [], [], [], by omega, rfl, rows2_nil w1⟩
  case round =>
    obtain ⟨I, ps, qs, os, hI, rfl, hR⟩ := hrel
    have B1r := hideD (beyondD hb1.out hR.out.below)
    by_cases ci : I < len
    · have k0 : (0 : Int) ≤ (I : Int) := by omega
      have k1 : (I : Int) < (len : Int) := by omega
      obtain ⟨gb, off, rfl, c0', c1'⟩ := HV.out I ci
      have c0 := kc _ _ B1r.out c0'
      have c1 := kc _ _ B1r.out c1'
      obtain ⟨oI, zI, callI⟩ := HBk.out I ci
      have ZI := hideD zI
      have SB : Hid (∀ w', Below wr.heap.size wr w' → Calls Tryd.prog 19 #[.int .i64 (K I), V I] w' fun e w'' => (∃ p q, e = .returned (.tuple #[.pointer p, .pointer q]) ∧ Hid (PZ w'' p oI) ∧ Hid (RZ w'' q oI)) ∧ Hid (Below w'.heap.size w' w'')) := fun w' hb => callI w' (beyondD B1r.out hb)
      generalize K I = kI at *
      generalize V I = vI at *
      have B2 := Below.refl wr.heap.size wr
      clear c0' c1' callI zI HBk HV HO HP hp hq
      go_upto_region 7 with (fail)
      go_region_held3 (fun w2 => w2.cell? ⟨gb, off + I * 2, none⟩ = some (.int .i64 kI) ∧ w2.cell? ⟨gb, off + I * 2 + 1, none⟩ = some vI)
        (first | with_reducible assumption | go_keep)
        (first
          | (go_at_call 19; refine (SB.out _ (by first | assumption | (apply Below.drew; assumption))).mono ?_; rintro e' w2 ⟨⟨p4, q4, rfl, hp4, hq4⟩, hb4⟩; have s9 := kc ⟨gb, off + I * 2, none⟩ (.int .i64 kI) hb4.out (by first | assumption | simp [go_sem, *]); have s8 := kc ⟨gb, off + I * 2 + 1, none⟩ vI hb4.out (by first | assumption | simp [go_sem, *]); have s1 := beyondD (w := wr) (by first | assumption | (apply Below.drew; assumption)) hb4.out))
      all_goals
        have R4 := hideD (hR.out.past s1)
        have hl := hR.out.pl
        have own4 := R4.out.pu.own
        rw [hl.1] at own4
        have O4 := hideD own4
        have P4 := hideD hp4.out
        have Q4 := hideD hq4.out
        have HN := hideD (one_ptr w2 p4 23)
        have bs := R4.out.below.size
        clear hR hp4 hq4 s9 s8 s1 own4 hb4 c0 c1 B2 SB hl B1r
        go_upto_region 9 with (at_builtin; refine wpList_append_own _ rfl _ _ 53 rfl w1.heap.size 23 i0 (.pointer none) 1 8 Tryd.underlying53 hi0 hzz0 hzz1 hzz2 rfl (by decide) _ I (ps.map Value.pointer) rfl (O4.out.alloc _) ⟨w2.heap.size, 0, none⟩ 1 1 [.pointer p4] rfl rfl HN.out (fun u hu => by simp at hu; subst hu; rfl) (by unfold maxLen; omega) (by omega) (by simp; omega) ?_; intro v' w5 hown' hgrow hnil)
        obtain ⟨f1, f2, f3, f4, f5, f6, f7⟩ := R4.out.first P4.out Q4.out hown' hgrow
        have l2 := R4.out.pl.2
        have own5 := f2.own
        rw [l2] at own5
        have F1 := hideD f1
        have F2 := hideD f2
        have F3 := hideD f3
        have F4 := hideD f4
        have F5 := hideD f5
        have F6 := hideD f6
        have F7 := hideD f7
        have O5 := hideD own5
        have LN := hideD R4.out.len
        have ZS := hideD R4.out.zs
        have HN5 := hideD (one_ptr w5 q4 24)
        have bs5 := f7.size
        clear hown' hgrow hnil R4 O4 P4 Q4 HN f1 f2 f3 f4 f5 f6 f7 own5 l2 bs
        go_wp2_with (at_builtin; refine wpList_append_own _ rfl _ _ 54 rfl w1.heap.size 24 j0 (.pointer none) 1 8 Tryd.underlying54 hj0 hyy0 hyy1 hyy2 rfl (by decide) _ I (qs.map Value.pointer) rfl (O5.out.alloc _) ⟨w5.heap.size, 0, none⟩ 1 1 [.pointer q4] rfl rfl HN5.out (fun u hu => by simp at hu; subst hu; rfl) (by unfold maxLen; omega) (by omega) (by simp; omega) ?_; intro v'' w6 hown' hgrow hnil)
        have R6 := hideD (Rows2.second LN.out ZS.out ZI.out F1.out F2.out F3.out F4.out F5.out F6.out F7.out hown' hgrow)
        clear hown' hgrow hnil F1 F2 F3 F4 F5 F6 F7 O5 LN ZS HN5
        exact ⟨⟨I + 1, _, _, _, by omega, by go_num, R6⟩, by simp [intOf]; omega⟩
    · have k1 : ¬ ((I : Int) < (len : Int)) := by omega
      have hpr := hp.out.past hR.out.below
      have hqr := hq.out.past hR.out.below
      have ol := hR.out.len
      obtain ⟨k, o1, u1, u2, u3⟩ := two_and hpr hqr HO.out hR.out.pu.row hR.out.pv.row hR.out.ps hR.out.qs hR.out.zs (by omega)
      obtain ⟨k', o2, d1, d2, d3⟩ := two_hull hpr hqr HO.out hR.out.pu.row hR.out.pv.row hR.out.ps hR.out.qs hR.out.zs (by omega)
      have U1 := hideD (u1 _ (Below.refl _ _))
      have U2 := hideD u2
      have D1 := hideD d1
      have D2 := hideD d2
      have PR := hideD hpr
      have QR := hideD hqr
      clear hR hp hq hb1 HBk HV hpr hqr ol u1 u2 u3 d1 d2 d3 HO hi0 hzz0 hzz1 hzz2 hj0 hyy0 hyy1 hyy2
      go_wp2_with fail
      refine U1.out.mono ?_
      rintro e w2 ⟨⟨pa, rfl, hpa⟩, hb2⟩
      have U3 := hideD (U2.out _ hb2.out)
      clear U1 U2
      go_wp2_with fail
      refine U3.out.mono ?_
      rintro e w3 ⟨⟨qa, rfl, hqa⟩, hb3⟩
      have B13 := hideD (beyondD hb2.out hb3.out)
      have PA3 := hideD (hpa.out.past hb3.out)
      have D3 := hideD (D1.out _ B13.out)
      clear U3 D1 hb2 hb3 hpa
      go_wp2_with fail
      refine D3.out.mono ?_
      rintro e w4 ⟨⟨pc, rfl, hpc⟩, hb4⟩
      have B14 := hideD (beyondD B13.out hb4.out)
      have PA4 := hideD (PA3.out.past hb4.out)
      have QA4 := hideD (hqa.out.past hb4.out)
      have D4 := hideD (D2.out _ B14.out)
      clear D3 D2 hb4 PA3 hqa B13
      go_wp2_with fail
      refine D4.out.mono ?_
      rintro e w5 ⟨⟨qc, rfl, hqc⟩, hb5⟩
      have B15 := hideD (beyondD B14.out hb5.out)
      have PA5 := hideD (PA4.out.past hb5.out)
      have QA5 := hideD (QA4.out.past hb5.out)
      have PC5 := hideD (hpc.out.past hb5.out)
      have B05 := hideD (beyondD B1r.out B15.out)
      have HL := hideD (olive_any w5 (pow_later HP.out B05.out))
      have P5 := hideD (PR.out.past B15.out)
      have Q5 := hideD (QR.out.past B15.out)
      clear D4 hb5 PA4 QA4 hpc B14 B15 PR QR B1r
      go_wp2_with fail
      refine HL.out.mono ?_
      rintro e w6 ⟨rfl, hb6⟩
      have B06 := hideD (beyondD B05.out hb6)
      have HS1 := hideD (same_any (PA5.out.past hb6) (QA5.out.past hb6))
      have PC6 := hideD (PC5.out.past hb6)
      have QC6 := hideD (hqc.out.past hb6)
      have P6 := hideD (P5.out.past hb6)
      have Q6 := hideD (Q5.out.past hb6)
      clear HL hb6 PA5 QA5 PC5 hqc P5 Q5 B05
      go_wp2_with fail
      refine HS1.out.mono ?_
      rintro e w7 ⟨rfl, hb7⟩
      have B07 := hideD (beyondD B06.out hb7)
      have HS2 := hideD (same_any (PC6.out.past hb7) (QC6.out.past hb7))
      have P7 := hideD (P6.out.past hb7)
      have Q7 := hideD (Q6.out.past hb7)
      clear HS1 hb7 PC6 QC6 P6 Q6 B06
      go_wp2_with fail
      refine HS2.out.mono ?_
      rintro e w8 ⟨rfl, hb8⟩
      have B08 := hideD (beyondD B07.out hb8)
      have HS3 := hideD (same_any (P7.out.past hb8) (Q7.out.past hb8))
      clear HS2 hb8 P7 Q7 B07
      go_wp2_with fail
      refine HS3.out.mono ?_
      rintro e w9 ⟨rfl, hb9⟩
      go_wp2_with fail
      go_ret
      exact ⟨by simp, beyondD B08.out hb9⟩
end Go.Proofs.YtjmgkbcgaloipaaDoor
