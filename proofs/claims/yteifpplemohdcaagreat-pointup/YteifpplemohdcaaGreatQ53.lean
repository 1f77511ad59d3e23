/-
  The walk of PointUp.
-/
import Derived.Test.YteifpplemohdcaaGreatQ45
import Derived.Test.YteifpplemohdcaaGreatQ46
import Derived.Test.YteifpplemohdcaaGreatQ47
import Derived.Test.YteifpplemohdcaaGreatQ48
import Derived.Test.YteifpplemohdcaaGreatQ49
import Derived.Test.YteifpplemohdcaaGreatQ50
import Derived.Test.YteifpplemohdcaaGreatQ51
import Derived.Test.YteifpplemohdcaaGreatQ52
namespace Go.Proofs.YteifpplemohdcaaGreat
open Go.RowKit Go.Shelf Go.ChangeShapes Go.WideShapes Go.ChangeAt
set_option linter.unusedVariables false
set_option maxRecDepth 1000000
theorem in_at {b n m q cap : Nat} {ad : Option Addr} {c : Row} {L : Rats} {w : World} (hn : n ≤ 8) (hm : m = (n + 1) * (n + 1)) (hz : ZoneAt w b n c) (hq : L.q = q) (q1 : q ≤ 9223372036854775807) (hnil : ad = none → q = 0 ∧ cap = 0) (hV : RatV w ad L) (hI : RatI L) : Hid (∀ w', Below w.heap.size w w' → Calls Tryz.prog 27 #[.pointer (some ⟨b, 0, none⟩), .slice ad q cap] w' fun e w'' => e = .returned (.bool (inB n m c L)) ∧ Below w'.heap.size w' w'') :=
  fun w' h => inP_any b n m q cap ad c L w' hn hm (hz.past h) hq q1 hnil (hV.later h) hI
set_option maxHeartbeats 16000000 in
theorem pointUp.walk (n : Int) (wn : (Lit.int .i64 n).wf = true) (v : Value) (l : List Int) (a g : Value) (L : Rats) (dn dd ck nn : Int) (G : Guas) (w : World) (hS : SliceAt w v l) (wf : ∀ z ∈ l, (Lit.int .i32 z).wf = true) (hby : l.length * 4 ≤ 140737488355328) (hnl : ∀ {c}, v = .slice none 0 c → c = 0)
    (hR : RatS w a L) (wR : ∀ k, k < L.q → (Lit.int .i64 (L.n k)).wf = true ∧ (Lit.int .i64 (L.d k)).wf = true) (hbR : L.q * 16 ≤ 140737488355328) (wd : (Lit.int .i64 dn).wf = true) (we : (Lit.int .i64 dd).wf = true) (wc : (Lit.int .i64 ck).wf = true) (wnn : (Lit.int .i64 nn).wf = true) (hG : ∃ ad cap, g = .slice ad G.q cap ∧ GuaV w ad G) (hk : ∀ k, k < G.q → 0 ≤ G.k k ∧ G.k k < 256) (hbG : G.q * 32 ≤ 140737488355328) :
    Calls Tryz.prog 5 #[.int .i64 n, v, .agg #[a, .int .i64 dn, .int .i64 dd, .int .i64 ck, .int .i64 nn, g]] w fun e w' => e = .returned (.bool true) ∧ Below w.heap.size w w' := by
  obtain ⟨ad, cap, rfl, hnil, hV⟩ := hR
  obtain ⟨adg, capg, rfl, hGV⟩ := hG
  have hI : RatI L := fun k hk => ⟨bounds_i64 (wR k hk).1, bounds_i64 (wR k hk).2⟩
  have id := bounds_i64 wd
  have ie := bounds_i64 we
  have ic := bounds_i64 wc
  have inn := bounds_i64 wnn
  obtain ⟨q, hq⟩ : ∃ q, L.q = q := ⟨_, rfl⟩
  rw [hq] at hnil hbR
  rw [hq]
  obtain ⟨gq, hgq⟩ : ∃ gq, G.q = gq := ⟨_, rfl⟩
  rw [hgq]
  have Ba := hideD (single w (.cells #[.slice ad q cap, .int .i64 dn, .int .i64 dd, .int .i64 ck, .int .i64 nn, .slice adg gq capg] 27))
  have HO := hideD (fun W (hb : Below w.heap.size w W) => ofZ_any n v l W (hS.later hb) (fun j hj => bounds_i32 (wf _ (getD_mem hj))) (by omega))
  have HW := hideD (fun W (hb : Below w.heap.size w W) => waitS_any ad q cap L dn dd W hq (by omega) (hV.later hb) hI id ie)
  have HSt := hideD (fun W (hb : Below w.heap.size w W) => pset_any ad q cap L ck nn W hq (by omega) (hV.later hb) hI ic)
  have HHo := hideD (fun W (hb : Below w.heap.size w W) => pholds_any ad adg q cap gq capg L G W hq (by omega) hnil (hV.later hb) hI hgq (by omega) (hGV.past hb) hk)
  have HR := hideD (fun W (hb : Below w.heap.size w W) => pright_any ad cap q L W hq (by omega) (hV.later hb) hI)
  have HR6 := hideD (fun W (hb : Below w.heap.size w W) => rright6_any ad cap q L W hq (by omega) (hV.later hb) hI)
  have H0 := hideD (fun W => plive_any W)
  have HI := hideD hI
  have HV := hideD hV
  have HGV := hideD hGV
  have HNil := hideD hnil
  have Hq := hideD hq
  have Hgq := hideD hgq
  have Hk := hideD hk
  have HbG := hideD hbG
  have Ic := hideD ic
  have Inn := hideD inn
  have q1 : Hid (q ≤ 9223372036854775807) := by show _ ≤ _; omega
  have c0 : Hid ((w.alloc (.cells #[.slice ad q cap, .int .i64 dn, .int .i64 dd, .int .i64 ck, .int .i64 nn, .slice adg gq capg] 27)).cell? ⟨w.heap.size, 0, none⟩ = some (.slice ad q cap)) := by show _ = _; simp [go_sem]
  have c1 : Hid ((w.alloc (.cells #[.slice ad q cap, .int .i64 dn, .int .i64 dd, .int .i64 ck, .int .i64 nn, .slice adg gq capg] 27)).cell? ⟨w.heap.size, 1, none⟩ = some (.int .i64 dn)) := by show _ = _; simp [go_sem]
  have c2 : Hid ((w.alloc (.cells #[.slice ad q cap, .int .i64 dn, .int .i64 dd, .int .i64 ck, .int .i64 nn, .slice adg gq capg] 27)).cell? ⟨w.heap.size, 2, none⟩ = some (.int .i64 dd)) := by show _ = _; simp [go_sem]
  have c3 : Hid ((w.alloc (.cells #[.slice ad q cap, .int .i64 dn, .int .i64 dd, .int .i64 ck, .int .i64 nn, .slice adg gq capg] 27)).cell? ⟨w.heap.size, 3, none⟩ = some (.int .i64 ck)) := by show _ = _; simp [go_sem]
  have c4 : Hid ((w.alloc (.cells #[.slice ad q cap, .int .i64 dn, .int .i64 dd, .int .i64 ck, .int .i64 nn, .slice adg gq capg] 27)).cell? ⟨w.heap.size, 4, none⟩ = some (.int .i64 nn)) := by show _ = _; simp [go_sem]
  have c5 : Hid ((w.alloc (.cells #[.slice ad q cap, .int .i64 dn, .int .i64 dd, .int .i64 ck, .int .i64 nn, .slice adg gq capg] 27)).cell? ⟨w.heap.size, 5, none⟩ = some (.slice adg gq capg)) := by show _ = _; simp [go_sem]
  clear hS wf hby hnl wn hV hI hnil hbR wd we wc wnn wR id ie ic inn hq hgq hGV hk hbG
  go_enter Tryz.func5, Tryz.ntmps5
  go_wp2_with fail
  generalize w.alloc (.cells #[.slice ad q cap, .int .i64 dn, .int .i64 dd, .int .i64 ck, .int .i64 nn, .slice adg gq capg] 27) = w0 at *
  obtain ⟨bm, hbm⟩ : ∃ bm, bm = w.heap.size := ⟨_, rfl⟩
  rw [← hbm] at c0 c1 c2 c3 c4 c5 ⊢
  clear hbm
  have B0 : Hid (Below w.heap.size w w0) := Ba.out
  clear Ba
  refine (H0.out _).mono ?_
  rintro e w1 ⟨rfl, hb⟩
  have B0 := hideD (beyondD B0.out hb)
  have c0 := hideD (kc _ _ hb c0.out)
  have c1 := hideD (kc _ _ hb c1.out)
  have c2 := hideD (kc _ _ hb c2.out)
  have c3 := hideD (kc _ _ hb c3.out)
  have c4 := hideD (kc _ _ hb c4.out)
  have c5 := hideD (kc _ _ hb c5.out)
  clear hb
  have H1 := hideD (HO.out w1 B0.out)
  clear HO H0
  go_wp2_with fail
  refine H1.out.mono ?_
  rintro e w2 ⟨ho, hb⟩
  have B0 := hideD (beyondD B0.out hb)
  have c0 := hideD (kc _ _ hb c0.out)
  have c1 := hideD (kc _ _ hb c1.out)
  have c2 := hideD (kc _ _ hb c2.out)
  have c3 := hideD (kc _ _ hb c3.out)
  have c4 := hideD (kc _ _ hb c4.out)
  have c5 := hideD (kc _ _ hb c5.out)
  clear hb
  clear H1
  rcases ho with ⟨x, rfl⟩ | ⟨N, b, c, rfl, N8, rfl, hz, zc⟩
  · as_aux_lemma =>
    clear HW HSt HHo HV HGV HNil Hq Hgq Hk HbG Ic Inn
    go_upto_region 5 with (fail)
    go_cut [6] (fun s wx => s = .bool true ∧ Hid (Below w2.heap.size w2 wx))
    case first =>
      as_aux_lemma =>
        refine wp_region_noPanic ?_
        refine wp_region_held_drew (S := fun w' => Below w2.heap.size w2 w') (by kernel_rfl) ?_ (fun hHeld => ?_)
        · exact (Below.refl _ _).drew
        refine wpAnyH_take (i := 0) (oi := ⟨_, _, _, _, _, _⟩) (v := ?_) rfl (by kernel_rfl) (by kernel_rfl) (by kernel_rfl) (fun _ _ _ h => h) (Or.inl ⟨by rfl, ?_⟩) (by assumption) ?_
        rotate_left
        · intro w hSw; (try dsimp only at hSw); first | (go_simp; done) | (go_simp; with_reducible rfl)
        try simp only [Act.put, List.setIfInBounds_toArray, List.set_cons_zero, List.set_cons_succ]
        refine wpAnyH_take (i := 1) (oi := ⟨_, _, _, _, _, _⟩) (v := ?_) rfl (by kernel_rfl) (by kernel_rfl) (by kernel_rfl) (fun _ _ _ h => h) (Or.inl ⟨by rfl, ?_⟩) (by assumption) ?_
        rotate_left
        · intro w hSw; (try dsimp only at hSw); first | (go_simp; done) | (go_simp; with_reducible rfl)
        try simp only [Act.put, List.setIfInBounds_toArray, List.set_cons_zero, List.set_cons_succ]
        refine wpAnyH_take (i := 2) (oi := ⟨_, _, _, _, _, _⟩) (v := ?_) rfl (by kernel_rfl) (by kernel_rfl) (by kernel_rfl) (fun _ _ _ h => h) (Or.inl ⟨by rfl, ?_⟩) (by assumption) ?_
        rotate_left
        · intro w hSw; (try dsimp only at hSw); first | (go_simp; done) | (go_simp; with_reducible rfl)
        try simp only [Act.put, List.setIfInBounds_toArray, List.set_cons_zero, List.set_cons_succ]
        refine wpAnyH_take (i := 3) (oi := ⟨_, _, _, _, _, _⟩) (v := undef) rfl (by kernel_rfl) (by kernel_rfl) (by kernel_rfl) (fun _ _ _ h => h) (Or.inr ⟨by rfl, rfl⟩) (by assumption) ?_
        try simp only [Act.put, List.setIfInBounds_toArray, List.set_cons_zero, List.set_cons_succ]
        refine wpAnyH_take (i := 4) (oi := ⟨_, _, _, _, _, _⟩) (v := undef) rfl (by kernel_rfl) (by kernel_rfl) (by kernel_rfl) (fun _ _ _ h => h) (Or.inr ⟨by rfl, rfl⟩) (by assumption) ?_
        try simp only [Act.put, List.setIfInBounds_toArray, List.set_cons_zero, List.set_cons_succ]
        refine wpAnyH_take (i := 5) (oi := ⟨_, _, _, _, _, _⟩) (v := undef) rfl (by kernel_rfl) (by kernel_rfl) (by kernel_rfl) (fun _ _ _ h => h) (Or.inr ⟨by rfl, rfl⟩) (by assumption) ?_
        try simp only [Act.put, List.setIfInBounds_toArray, List.set_cons_zero, List.set_cons_succ]
        refine wpAnyH_take (i := 6) (oi := ⟨_, _, _, _, _, _⟩) (v := undef) rfl (by kernel_rfl) (by kernel_rfl) (by kernel_rfl) (fun _ _ _ h => h) (Or.inr ⟨by rfl, rfl⟩) (by assumption) ?_
        try simp only [Act.put, List.setIfInBounds_toArray, List.set_cons_zero, List.set_cons_succ]
        refine wpAnyH_take (i := 7) (oi := ⟨_, _, _, _, _, _⟩) (v := undef) rfl (by kernel_rfl) (by kernel_rfl) (by kernel_rfl) (fun _ _ _ h => h) (Or.inr ⟨by rfl, rfl⟩) (by assumption) ?_
        try simp only [Act.put, List.setIfInBounds_toArray, List.set_cons_zero, List.set_cons_succ]
        refine wpAnyH_take (i := 8) (oi := ⟨_, _, _, _, _, _⟩) (v := undef) rfl (by kernel_rfl) (by kernel_rfl) (by kernel_rfl) (fun _ _ _ h => h) (Or.inr ⟨by rfl, rfl⟩) (by assumption) ?_
        try simp only [Act.put, List.setIfInBounds_toArray, List.set_cons_zero, List.set_cons_succ]
        refine wpAnyH_take (i := 9) (oi := ⟨_, _, _, _, _, _⟩) (v := undef) rfl (by kernel_rfl) (by kernel_rfl) (by kernel_rfl) (fun _ _ _ h => h) (Or.inr ⟨by rfl, rfl⟩) (by assumption) ?_
        try simp only [Act.put, List.setIfInBounds_toArray, List.set_cons_zero, List.set_cons_succ]
        refine wpAnyH_take (i := 10) (oi := ⟨_, _, _, _, _, _⟩) (v := ?_) rfl (by kernel_rfl) (by kernel_rfl) (by kernel_rfl) (fun _ _ _ h => h) (Or.inl ⟨by rfl, ?_⟩) (by assumption) ?_
        rotate_left
        · intro w hSw; (try dsimp only at hSw); first | (go_simp; done) | (go_simp; with_reducible rfl)
        try simp only [Act.put, List.setIfInBounds_toArray, List.set_cons_zero, List.set_cons_succ]
        refine wpAnyH_take (i := 11) (oi := ⟨_, _, _, _, _, _⟩) (v := ?_) rfl (by kernel_rfl) (by kernel_rfl) (by kernel_rfl) (fun _ _ _ h => h) (Or.inl ⟨by rfl, ?_⟩) (by assumption) ?_
        rotate_left
        · intro w hSw; (try dsimp only at hSw); first | (go_simp; done) | (go_simp; with_reducible rfl)
        try simp only [Act.put, List.setIfInBounds_toArray, List.set_cons_zero, List.set_cons_succ]
        refine wpAnyH_done (by kernel_rfl) ?_ _
        refine NoPanic.normal ?_
        go_wp2_with fail
        go_meet
        exact ⟨rfl, by assumption⟩
    case rest =>
      obtain ⟨rfl, hb⟩ := hcut
      go_wp2_with fail
      go_ret
      exact ⟨rfl, beyondD B0.out hb.out⟩
  · have Z := hideD hz
    have H2 := hideD (HR.out w2 B0.out)
    clear hz
    have c0x := c0.out
    go_wp2_with fail
    refine H2.out.mono ?_
    rintro e w3 ⟨rfl, hb⟩
    clear c0x
    have B0 := hideD (beyondD B0.out hb)
    have c0 := hideD (kc _ _ hb c0.out)
    have c1 := hideD (kc _ _ hb c1.out)
    have c2 := hideD (kc _ _ hb c2.out)
    have c3 := hideD (kc _ _ hb c3.out)
    have c4 := hideD (kc _ _ hb c4.out)
    have c5 := hideD (kc _ _ hb c5.out)
    have Z := hideD (Z.out.past hb)
    clear hb
    clear H2
    by_cases rq : rightL L = true ∧ q = N
    · obtain ⟨r, rfl⟩ := rq
      rw [r]
      have fit : Hid (fitB L q = true) := by show _ = _; rw [fitB, r, Hq.out]; simp
      obtain ⟨m, hm⟩ : ∃ m, m = (q + 1) * (q + 1) := ⟨_, rfl⟩
      rw [← hm] at zc
      have HM := hideD hm
      have ZC0 := hideD zc
      clear hm zc r HR HR6
      have c0x := c0.out
      go_upto_region 6 with (fail)
      clear c0x
      as_aux_lemma =>
      obtain ⟨c1u, zc1, INC, E0, TU, PU⟩ := up_say N8 HM.out ZC0.out
      have TU2 := hideD (TU w3 b Z.out)
      unfold OTells at TU2
      have ZC1 := hideD zc1
      have IC := hideD INC
      have E0 := hideD E0
      have PU := hideD PU
      clear TU zc1 INC
      go_wp2_with fail
      refine TU2.out.mono ?_
      rintro e w4 ⟨⟨BB, b1, -, rfl, hz1⟩, hb⟩
      have B0 := hideD (beyondD B0.out hb)
      have c0 := hideD (kc _ _ hb c0.out)
      have c1 := hideD (kc _ _ hb c1.out)
      have c2 := hideD (kc _ _ hb c2.out)
      have c3 := hideD (kc _ _ hb c3.out)
      have c4 := hideD (kc _ _ hb c4.out)
      have c5 := hideD (kc _ _ hb c5.out)
      have Z := hideD (Z.out.past hb)
      clear hb
      have U := hideD hz1
      clear hz1 TU2
      have y0 := c0.out
      have y1 := c1.out
      have y2 := c2.out
      have H3 := hideD (HW.out w4 B0.out)
      clear HW
      go_wp2_with fail
      refine H3.out.mono ?_
      rintro e w5 ⟨⟨aw, qw, cw, ew, rfl, hw⟩, hb⟩
      clear y0 y1 y2 c1 c2
      have B0 := hideD (beyondD B0.out hb)
      have c0 := hideD (kc _ _ hb c0.out)
      have c3 := hideD (kc _ _ hb c3.out)
      have c4 := hideD (kc _ _ hb c4.out)
      have c5 := hideD (kc _ _ hb c5.out)
      have Z := hideD (Z.out.past hb)
      have U := hideD (U.out.past hb)
      clear hb
      have WA := hideD hw
      clear H3 hw
      go_upto_region 8 with (fail)
      go_cut [85] (fun s wx => s = .bool false ∧ Hid (Below w5.heap.size w5 wx))
      case first =>
        as_aux_lemma =>
          have INz := in_at N8 HM.out Z.out Hq.out q1.out HNil.out (HV.out.later B0.out) HI.out
          by_cases ez : ew = 0
          · obtain ⟨e1, e2, e3, e4, e5⟩ := WA.out ez
            subst ez
            have wI := wait_ratI N8 fit.out e4 e5
            have INu := in_at N8 HM.out U.out (show (waitL L dn dd).q = qw from e1.symm) (by have := q1.out; have := Hq.out; omega) e2 e3 wI
            have hup := fun h => up_in N8 HM.out ZC0.out ZC1.out PU.out fit.out e4 (fun k hk => e5 k (by have := Hq.out; omega)) h
            have c0x := c0.out
            clear WA e1 e2 e3 e4 e5 wI
            by_cases iz : inB q m c L = true
            · rw [hup iz] at INu
              rw [iz] at INz
              clear hup iz
              go_wp2_with fail
              refine (INz.out _ (Below.refl _ _)).mono ?_
              rintro e wx ⟨rfl, hb⟩
              have hb := hideD hb
              go_wp2_with fail
              refine (INu.out _ hb.out).mono ?_
              rintro e wy ⟨rfl, hb2⟩
              have hb2 := hideD (beyondD hb.out hb2)
              go_wp2_with fail
              go_meet
              exact ⟨rfl, hb2⟩
            · rw [Bool.not_eq_true] at iz
              rw [iz] at INz
              clear hup iz
              go_wp2_with fail
              refine (INz.out _ (Below.refl _ _)).mono ?_
              rintro e wx ⟨rfl, hb⟩
              have hb := hideD hb
              go_wp2_with fail
              go_meet
              exact ⟨rfl, hb⟩
          · have ez : (ew == 0) = false := by simpa using ez
            clear WA
            go_wp2_with fail
            go_meet
            exact ⟨rfl, Below.refl _ _⟩
      case rest =>
        as_aux_lemma =>
        obtain ⟨rfl, hB⟩ := hcut
        obtain ⟨w6, h6⟩ : ∃ w6, w6 = wc := ⟨_, rfl⟩
        subst h6
        have hb := hB.out
        have B0 := hideD (beyondD B0.out hb)
        have c0 := hideD (kc _ _ hb c0.out)
        have c3 := hideD (kc _ _ hb c3.out)
        have c4 := hideD (kc _ _ hb c4.out)
        have c5 := hideD (kc _ _ hb c5.out)
        have Z := hideD (Z.out.past hb)
        have U := hideD (U.out.past hb)
        clear hb
        clear hB WA PU
        obtain ⟨c2u, zc2, TD, PD⟩ := down_say N8 HM.out ZC0.out
        obtain ⟨ln, ld, hn2, hd2, li, hi, fv, eD, eE⟩ := ends_say (c := c) N8 HM.out (zc_right HM.out ZC0.out) fit.out
        have DIN := hideD (fun h => down_in N8 HM.out ZC0.out zc2 PD fit.out (c1 := c2u) h)
        have HD := hideD (callsIn_wide.1 (delays_in b q m q cap ad c L w6 N8 HM.out Z.out Hq.out HNil.out (HV.out.later B0.out) HI.out fit.out))
        have TD2 := hideD TD
        have EE := hideD eE
        have ZC2 := hideD zc2
        rw [eD] at HD
        clear TD PD eE eD zc2
        generalize (delB q m c L).2 = lt at *
        have y0 := c0.out
        go_wp2_with fail
        refine HD.out.mono ?_
        rintro e w7 ⟨rfl, hb⟩
        clear y0
        have B0 := hideD (beyondD B0.out hb)
        have c0 := hideD (kc _ _ hb c0.out)
        have c3 := hideD (kc _ _ hb c3.out)
        have c4 := hideD (kc _ _ hb c4.out)
        have c5 := hideD (kc _ _ hb c5.out)
        have Z := hideD (Z.out.past hb)
        have U := hideD (U.out.past hb)
        clear hb
        clear HD
        have hb := single w7 (.cells #[.int .i64 ln, .int .i64 ld, .int .i64 hn2, .int .i64 hd2, .bool li, .bool hi, .bool fv] 73)
        go_upto_region 11 with (fail)
        have p0 : Hid ((w7.alloc (.cells #[.int .i64 ln, .int .i64 ld, .int .i64 hn2, .int .i64 hd2, .bool li, .bool hi, .bool fv] 73)).cell? ⟨w7.heap.size, 0, none⟩ = some (.int .i64 ln)) := by show _ = _; simp [go_sem]
        have p1 : Hid ((w7.alloc (.cells #[.int .i64 ln, .int .i64 ld, .int .i64 hn2, .int .i64 hd2, .bool li, .bool hi, .bool fv] 73)).cell? ⟨w7.heap.size, 1, none⟩ = some (.int .i64 ld)) := by show _ = _; simp [go_sem]
        have p2 : Hid ((w7.alloc (.cells #[.int .i64 ln, .int .i64 ld, .int .i64 hn2, .int .i64 hd2, .bool li, .bool hi, .bool fv] 73)).cell? ⟨w7.heap.size, 2, none⟩ = some (.int .i64 hn2)) := by show _ = _; simp [go_sem]
        have p3 : Hid ((w7.alloc (.cells #[.int .i64 ln, .int .i64 ld, .int .i64 hn2, .int .i64 hd2, .bool li, .bool hi, .bool fv] 73)).cell? ⟨w7.heap.size, 3, none⟩ = some (.int .i64 hd2)) := by show _ = _; simp [go_sem]
        have p4 : Hid ((w7.alloc (.cells #[.int .i64 ln, .int .i64 ld, .int .i64 hn2, .int .i64 hd2, .bool li, .bool hi, .bool fv] 73)).cell? ⟨w7.heap.size, 4, none⟩ = some (.bool li)) := by show _ = _; simp [go_sem]
        have p6 : Hid ((w7.alloc (.cells #[.int .i64 ln, .int .i64 ld, .int .i64 hn2, .int .i64 hd2, .bool li, .bool hi, .bool fv] 73)).cell? ⟨w7.heap.size, 6, none⟩ = some (.bool fv)) := by show _ = _; simp [go_sem]
        have B0 := hideD (beyondD B0.out hb)
        have c0 := hideD (kc _ _ hb c0.out)
        have c3 := hideD (kc _ _ hb c3.out)
        have c4 := hideD (kc _ _ hb c4.out)
        have c5 := hideD (kc _ _ hb c5.out)
        have Z := hideD (Z.out.past hb)
        have U := hideD (U.out.past hb)
        clear hb
        generalize w7.alloc (.cells #[.int .i64 ln, .int .i64 ld, .int .i64 hn2, .int .i64 hd2, .bool li, .bool hi, .bool fv] 73) = w8 at *
        generalize w7.heap.size = bs at *
        have TD3 := hideD (TD2.out w8 b Z.out)
        unfold OTells at TD3
        clear TD2
        go_wp2_with fail
        refine TD3.out.mono ?_
        rintro e w9 ⟨⟨BB2, b2, -, rfl, hz2⟩, hb⟩
        have p0 := hideD (kc _ _ hb p0.out)
        have p1 := hideD (kc _ _ hb p1.out)
        have p2 := hideD (kc _ _ hb p2.out)
        have p3 := hideD (kc _ _ hb p3.out)
        have p4 := hideD (kc _ _ hb p4.out)
        have p6 := hideD (kc _ _ hb p6.out)
        have B0 := hideD (beyondD B0.out hb)
        have c0 := hideD (kc _ _ hb c0.out)
        have c3 := hideD (kc _ _ hb c3.out)
        have c4 := hideD (kc _ _ hb c4.out)
        have c5 := hideD (kc _ _ hb c5.out)
        have Z := hideD (Z.out.past hb)
        have U := hideD (U.out.past hb)
        clear hb
        have D := hideD hz2
        clear hz2 TD3
        go_upto_region 12 with (fail)
        go_cut [125] (fun s wx => s = .bool false ∧ Hid (Below w9.heap.size w9 wx))
        case first =>
          as_aux_lemma =>
            cases lt with
            | false =>
              go_wp2_with fail
              go_meet
              exact ⟨rfl, Below.refl _ _⟩
            | true =>
              have INd := in_at N8 HM.out D.out Hq.out q1.out HNil.out (HV.out.later B0.out) HI.out
              rw [DIN.out rfl] at INd
              have EE := EE.out rfl
              have c0x := c0.out
              go_wp2_with fail
              refine (INd.out _ (Below.refl _ _)).mono ?_
              rintro e wx ⟨rfl, hb⟩
              have z0 := kc _ _ hb p0.out
              have z1 := kc _ _ hb p1.out
              have z2 := kc _ _ hb p2.out
              have z3 := kc _ _ hb p3.out
              have z4 := kc _ _ hb p4.out
              have z6 := kc _ _ hb p6.out
              have hb := hideD hb
              clear p0 p1 p2 p3 p4 p6 c0x INd DIN c0 c3 c4 c5
              cases li with
              | true =>
                clear EE
                go_wp2_with fail
                go_meet
                exact ⟨rfl, hb⟩
              | false =>
                cases fv with
                | true =>
                  clear EE
                  by_cases x1 : ln = hn2
                  · by_cases x2 : ld = hd2
                    · subst x1 x2
                      go_wp2_with fail
                      go_meet
                      exact ⟨by simp, hb⟩
                    · go_wp2_with fail
                      go_meet
                      exact ⟨by simp, hb⟩
                  · go_wp2_with fail
                    go_meet
                    exact ⟨by simp, hb⟩
                | false =>
                  by_cases x1 : ln = hn2
                  · have x2 : ¬ ld = hd2 := fun x2 => by subst x1 x2; simp at EE; first | done | exact EE.out | exact EE
                    clear EE
                    go_wp2_with fail
                    go_meet
                    exact ⟨by simp, hb⟩
                  · clear EE
                    go_wp2_with fail
                    go_meet
                    exact ⟨by simp, hb⟩
        case rest =>
          as_aux_lemma =>
          obtain ⟨rfl, hB⟩ := hcut
          obtain ⟨wa, ha⟩ : ∃ wa, wa = wc := ⟨_, rfl⟩
          subst ha
          have hb := hB.out
          have B0 := hideD (beyondD B0.out hb)
          have c0 := hideD (kc _ _ hb c0.out)
          have c3 := hideD (kc _ _ hb c3.out)
          have c4 := hideD (kc _ _ hb c4.out)
          have c5 := hideD (kc _ _ hb c5.out)
          have Z := hideD (Z.out.past hb)
          have U := hideD (U.out.past hb)
          clear hb
          clear hB p0 p1 p2 p3 p4 p6 D DIN EE ZC2
          obtain ⟨o3, o4, AS⟩ := ask_say (ck := ck) (nn := nn) N8 HM.out ZC0.out fit.out
          have AS := hideD AS
          have sI := hideD (set_ratI (ck := ck) HI.out Inn.out)
          have sq := hideD (setT_q L ck nn)
          have T3 := hideD (AS.out.t3 wa b Z.out)
          have y3 := c3.out
          have y4 := c4.out
          go_wp2_with fail
          refine T3.out.mono ?_
          rintro e wb ⟨⟨pr, er, rfl, hr⟩, hb⟩
          clear y3 y4
          have B0 := hideD (beyondD B0.out hb)
          have c0 := hideD (kc _ _ hb c0.out)
          have c3 := hideD (kc _ _ hb c3.out)
          have c4 := hideD (kc _ _ hb c4.out)
          have c5 := hideD (kc _ _ hb c5.out)
          have Z := hideD (Z.out.past hb)
          have U := hideD (U.out.past hb)
          clear hb
          have RS := hideD hr
          have HS2 := hideD (HSt.out wb B0.out)
          clear T3 hr HSt
          obtain ⟨⟨sl, sr⟩, est⟩ : ∃ st, setT L ck nn = st := ⟨_, rfl⟩
          have qs := setT_q L ck nn
          rw [est] at HS2 sI sq
          have E5 := hideD est
          dsimp only at HS2 sI sq
          clear est qs
          have y0 := c0.out
          have y3 := c3.out
          have y4 := c4.out
          go_wp2_with fail
          refine HS2.out.mono ?_
          rintro e wd ⟨⟨ac, cc, rfl, hn3, vc, -⟩, hb⟩
          clear y0 y3 y4
          have RS : Hid (er = 0 → ∃ c3 b3, o3 = some c3 ∧ pr = some ⟨b3, 0, none⟩ ∧ ZoneAt wd b3 q c3) := fun e => by
            obtain ⟨c3, b3, h1, h2, h3⟩ := RS.out e
            exact ⟨c3, b3, h1, h2, h3.past hb⟩
          skip
          have B0 := hideD (beyondD B0.out hb)
          have c0 := hideD (kc _ _ hb c0.out)
          have c3 := hideD (kc _ _ hb c3.out)
          have c4 := hideD (kc _ _ hb c4.out)
          have c5 := hideD (kc _ _ hb c5.out)
          have Z := hideD (Z.out.past hb)
          have U := hideD (U.out.past hb)
          clear hb
          have VS := hideD vc
          have SN := hideD hn3
          clear vc hn3 HS2
          go_upto_region 16 with (fail)
          go_cut [181] (fun s wx => s = .bool false ∧ Hid (Below wd.heap.size wd wx))
          case first =>
            as_aux_lemma =>
              by_cases ez : er = 0
              · obtain ⟨c3r, b3, h1, rfl, h3⟩ := RS.out ez
                obtain ⟨f0, fq, ⟨K, hK, hck, hat⟩, hin⟩ := AS.out.s3 c3r h1
                rw [E5.out] at f0 fq hin
                dsimp only at f0 fq hin
                subst ez f0
                have INz := in_at N8 HM.out Z.out Hq.out q1.out HNil.out (HV.out.later B0.out) HI.out
                have INr := in_at N8 HM.out h3 Hq.out q1.out HNil.out (HV.out.later B0.out) HI.out
                have INs := in_at N8 HM.out h3 rfl (by have := q1.out; omega) SN.out VS.out sI.out
                have HOf := hideD (fun W => ratOf_any nn W)
                obtain ⟨gb, off, hga, hv0, hv1⟩ := HV.out.later B0.out K (by have := Hq.out; omega)
                subst hga
                have v0 := hideD hv0
                have v1 := hideD hv1
                clear RS AS sI sq E5 VS SN HV HGV HNil Hgq Hk HbG Ic Inn U ZC1 IC E0 h3 h1 hv0 hv1 c5
                clear fq
                have xm : ck - 1 = (K : Int) := by omega
                have j0 : (0 : Int) ≤ (K : Int) := by omega
                have j1 : (K : Int) < (q : Int) := by omega
                have jw : IntKind.i64.wrap (K : Int) = (K : Int) := by rw [IntKind.wrap_i64]; have := Hq.out; omega
                clear hck
                by_cases iz : inB q m c L = true
                · rw [hin iz] at INs
                  rw [iz] at INz
                  by_cases irv : inB q m c3r L = true
                  · obtain ⟨a1, a2⟩ := hat irv
                    rw [irv] at INr
                    rw [a1] at v0
                    rw [a2] at v1
                    clear hat hin iz irv a1 a2
                    refine w16_11 q K b bm b3 gb off cap sl.q cc ck nn ac _ _ _ _ _ _ _ _ _ _ _ _ _ _ _ _ _ _ _ _ _ _ _ _ _ _ _ _ _ _ _ _ _ _ _ _ _ _ _ _ _ _ _ _ _ _ _ _ _ _ _ _ _ _ _ _ _ _ _ _ _ _ _ _ _ _ _ _ _ _ _ _ _ _ _ _ _ _ _ _ _ _ _ _ _ _ _ _ _ _ _ _ _ _ _ _ _ _ _ _ _ _ _ _ _ _ _ _ _ _ _ _ _ _ _ _ _ _ _ _ _ _ _ _ _ _ _ _ _ _ _ _ _ _ _ _ _ _ _ _ _ _ _ _ _ _ _ _ _ _ _ _ _ _ _ _ _ _ _ _ _ _ _ _ _ _ _ _ _ _ _ _ _ _ _ _ _ _ _ _ _ _ _ _ _ _ _ _ _ _ _ _ _ _ _ _ _ _ _ _ _ _ _ _ _ _ _ _ _ _ _ _ _ _ _ _ _ _ _ _ _ _ _ _ _ _ _ _ _ _ _ _ _ _ _ _ _ _ _ _ _ _ _ _ _ _ _ _ _ _ _ _ _ _ _ _ wd _ INz INs INr c0 c3 c4 HOf xm j0 j1 jw v0 v1 ?_
                    intro y145 y146 y147 y148 y149 y150 y151 y152 y153 y154 y155 y156 y157 y158 y159 y160 y161 y162 y163 y164 y165 y166 y167 y168 y169 y170 y171 y172 y173 y174 y175 y176 y177 y178 y179 y180 w' hb'
                    clear xm j0 j1 jw
                    go_wp2_with fail
                    go_meet
                    exact ⟨rfl, hb'⟩
                  · rw [Bool.not_eq_true] at irv
                    rw [irv] at INr
                    clear hat hin iz irv
                    refine w16_10 q K b bm b3 gb off cap sl.q cc ck nn ac _ _ _ _ _ _ _ _ _ _ _ _ _ _ _ _ _ _ _ _ _ _ _ _ _ _ _ _ _ _ _ _ _ _ _ _ _ _ _ _ _ _ _ _ _ _ _ _ _ _ _ _ _ _ _ _ _ _ _ _ _ _ _ _ _ _ _ _ _ _ _ _ _ _ _ _ _ _ _ _ _ _ _ _ _ _ _ _ _ _ _ _ _ _ _ _ _ _ _ _ _ _ _ _ _ _ _ _ _ _ _ _ _ _ _ _ _ _ _ _ _ _ _ _ _ _ _ _ _ _ _ _ _ _ _ _ _ _ _ _ _ _ _ _ _ _ _ _ _ _ _ _ _ _ _ _ _ _ _ _ _ _ _ _ _ _ _ _ _ _ _ _ _ _ _ _ _ _ _ _ _ _ _ _ _ _ _ _ _ _ _ _ _ _ _ _ _ _ _ _ _ _ _ _ _ _ _ _ _ _ _ _ _ _ _ _ _ _ _ _ _ _ _ _ _ _ _ _ _ _ _ _ _ _ _ _ _ _ _ _ _ _ _ _ _ _ _ _ _ _ _ _ _ _ _ _ wd _ INz INs INr c0 c3 c4 ?_
                    intro y145 y146 y147 y148 y149 y150 y151 y152 y153 y154 y155 y156 y157 y158 y159 y160 y161 y162 y163 y164 y165 y166 y167 y168 y169 y170 y171 y172 y173 y174 y175 y176 y177 y178 y179 y180 w' hb'
                    clear xm j0 j1 jw
                    go_wp2_with fail
                    go_meet
                    exact ⟨rfl, hb'⟩
                · rw [Bool.not_eq_true] at iz
                  rw [iz] at INz
                  by_cases irv : inB q m c3r L = true
                  · obtain ⟨a1, a2⟩ := hat irv
                    rw [irv] at INr
                    rw [a1] at v0
                    rw [a2] at v1
                    clear hat hin iz irv a1 a2 INs
                    refine w16_01 q K b bm b3 gb off cap sl.q cc ck nn ac _ _ _ _ _ _ _ _ _ _ _ _ _ _ _ _ _ _ _ _ _ _ _ _ _ _ _ _ _ _ _ _ _ _ _ _ _ _ _ _ _ _ _ _ _ _ _ _ _ _ _ _ _ _ _ _ _ _ _ _ _ _ _ _ _ _ _ _ _ _ _ _ _ _ _ _ _ _ _ _ _ _ _ _ _ _ _ _ _ _ _ _ _ _ _ _ _ _ _ _ _ _ _ _ _ _ _ _ _ _ _ _ _ _ _ _ _ _ _ _ _ _ _ _ _ _ _ _ _ _ _ _ _ _ _ _ _ _ _ _ _ _ _ _ _ _ _ _ _ _ _ _ _ _ _ _ _ _ _ _ _ _ _ _ _ _ _ _ _ _ _ _ _ _ _ _ _ _ _ _ _ _ _ _ _ _ _ _ _ _ _ _ _ _ _ _ _ _ _ _ _ _ _ _ _ _ _ _ _ _ _ _ _ _ _ _ _ _ _ _ _ _ _ _ _ _ _ _ _ _ _ _ _ _ _ _ _ _ _ _ _ _ _ _ _ _ _ _ _ _ _ _ _ _ _ _ wd _ INz INr c0 c3 c4 HOf xm j0 j1 jw v0 v1 ?_
                    intro y145 y146 y147 y148 y149 y150 y151 y152 y153 y154 y155 y156 y157 y158 y159 y160 y161 y162 y163 y164 y165 y166 y167 y168 y169 y170 y171 y172 y173 y174 y175 y176 y177 y178 y179 y180 w' hb'
                    clear xm j0 j1 jw
                    go_wp2_with fail
                    go_meet
                    exact ⟨rfl, hb'⟩
                  · rw [Bool.not_eq_true] at irv
                    rw [irv] at INr
                    clear hat hin iz irv INs
                    refine w16_00 q K b bm b3 gb off cap sl.q cc ck nn ac _ _ _ _ _ _ _ _ _ _ _ _ _ _ _ _ _ _ _ _ _ _ _ _ _ _ _ _ _ _ _ _ _ _ _ _ _ _ _ _ _ _ _ _ _ _ _ _ _ _ _ _ _ _ _ _ _ _ _ _ _ _ _ _ _ _ _ _ _ _ _ _ _ _ _ _ _ _ _ _ _ _ _ _ _ _ _ _ _ _ _ _ _ _ _ _ _ _ _ _ _ _ _ _ _ _ _ _ _ _ _ _ _ _ _ _ _ _ _ _ _ _ _ _ _ _ _ _ _ _ _ _ _ _ _ _ _ _ _ _ _ _ _ _ _ _ _ _ _ _ _ _ _ _ _ _ _ _ _ _ _ _ _ _ _ _ _ _ _ _ _ _ _ _ _ _ _ _ _ _ _ _ _ _ _ _ _ _ _ _ _ _ _ _ _ _ _ _ _ _ _ _ _ _ _ _ _ _ _ _ _ _ _ _ _ _ _ _ _ _ _ _ _ _ _ _ _ _ _ _ _ _ _ _ _ _ _ _ _ _ _ _ _ _ _ _ _ _ _ _ _ _ _ _ _ _ wd _ INz INr c0 c3 c4 ?_
                    intro y145 y146 y147 y148 y149 y150 y151 y152 y153 y154 y155 y156 y157 y158 y159 y160 y161 y162 y163 y164 y165 y166 y167 y168 y169 y170 y171 y172 y173 y174 y175 y176 y177 y178 y179 y180 w' hb'
                    clear xm j0 j1 jw
                    go_wp2_with fail
                    go_meet
                    exact ⟨rfl, hb'⟩
              · have ez : (er == 0) = false := by simpa using ez
                clear RS AS sI sq E5 VS SN
                refine wp_region_noPanic ?_
                refine wp_region_held_drew (S := fun w' => Below wd.heap.size wd w') (by kernel_rfl) ?_ (fun hHeld => ?_)
                · exact (Below.refl _ _).drew
                refine wpAnyH_take (i := 0) (oi := ⟨_, _, _, _, _, _⟩) (v := ?_) rfl (by kernel_rfl) (by kernel_rfl) (by kernel_rfl) (fun _ _ _ h => h) (Or.inl ⟨by rfl, ?_⟩) (by assumption) ?_
                rotate_left
                · intro w hSw; (try dsimp only at hSw); first | (go_simp; done) | (go_simp; with_reducible rfl)
                try simp only [Act.put, List.setIfInBounds_toArray, List.set_cons_zero, List.set_cons_succ]
                refine wpAnyH_take (i := 1) (oi := ⟨_, _, _, _, _, _⟩) (v := ?_) rfl (by kernel_rfl) (by kernel_rfl) (by kernel_rfl) (fun _ _ _ h => h) (Or.inl ⟨by rfl, ?_⟩) (by assumption) ?_
                rotate_left
                · intro w hSw; (try dsimp only at hSw); first | (go_simp; done) | (go_simp; with_reducible rfl)
                try simp only [Act.put, List.setIfInBounds_toArray, List.set_cons_zero, List.set_cons_succ]
                refine wpAnyH_take (i := 2) (oi := ⟨_, _, _, _, _, _⟩) (v := ?_) rfl (by kernel_rfl) (by kernel_rfl) (by kernel_rfl) (fun _ _ _ h => h) (Or.inl ⟨by rfl, ?_⟩) (by assumption) ?_
                rotate_left
                · intro w hSw; (try dsimp only at hSw); first | (go_simp; done) | (go_simp; with_reducible rfl)
                try simp only [Act.put, List.setIfInBounds_toArray, List.set_cons_zero, List.set_cons_succ]
                refine wpAnyH_take (i := 3) (oi := ⟨_, _, _, _, _, _⟩) (v := undef) rfl (by kernel_rfl) (by kernel_rfl) (by kernel_rfl) (fun _ _ _ h => h) (Or.inr ⟨by rfl, rfl⟩) (by assumption) ?_
                try simp only [Act.put, List.setIfInBounds_toArray, List.set_cons_zero, List.set_cons_succ]
                refine wpAnyH_take (i := 4) (oi := ⟨_, _, _, _, _, _⟩) (v := undef) rfl (by kernel_rfl) (by kernel_rfl) (by kernel_rfl) (fun _ _ _ h => h) (Or.inr ⟨by rfl, rfl⟩) (by assumption) ?_
                try simp only [Act.put, List.setIfInBounds_toArray, List.set_cons_zero, List.set_cons_succ]
                refine wpAnyH_take (i := 5) (oi := ⟨_, _, _, _, _, _⟩) (v := ?_) rfl (by kernel_rfl) (by kernel_rfl) (by kernel_rfl) (fun _ _ _ h => h) (Or.inl ⟨by rfl, ?_⟩) (by assumption) ?_
                rotate_left
                · intro w hSw; (try dsimp only at hSw); first | (go_simp; done) | (go_simp; with_reducible rfl)
                try simp only [Act.put, List.setIfInBounds_toArray, List.set_cons_zero, List.set_cons_succ]
                refine wpAnyH_take (i := 6) (oi := ⟨_, _, _, _, _, _⟩) (v := ?_) rfl (by kernel_rfl) (by kernel_rfl) (by kernel_rfl) (fun _ _ _ h => h) (Or.inl ⟨by rfl, ?_⟩) (by assumption) ?_
                rotate_left
                · intro w hSw; (try dsimp only at hSw); first | (go_simp; done) | (go_simp; with_reducible rfl)
                try simp only [Act.put, List.setIfInBounds_toArray, List.set_cons_zero, List.set_cons_succ]
                refine wpAnyH_take (i := 7) (oi := ⟨_, _, _, _, _, _⟩) (v := undef) rfl (by kernel_rfl) (by kernel_rfl) (by kernel_rfl) (fun _ _ _ h => h) (Or.inr ⟨by rfl, rfl⟩) (by assumption) ?_
                try simp only [Act.put, List.setIfInBounds_toArray, List.set_cons_zero, List.set_cons_succ]
                refine wpAnyH_take (i := 8) (oi := ⟨_, _, _, _, _, _⟩) (v := undef) rfl (by kernel_rfl) (by kernel_rfl) (by kernel_rfl) (fun _ _ _ h => h) (Or.inr ⟨by rfl, rfl⟩) (by assumption) ?_
                try simp only [Act.put, List.setIfInBounds_toArray, List.set_cons_zero, List.set_cons_succ]
                refine wpAnyH_take (i := 9) (oi := ⟨_, _, _, _, _, _⟩) (v := undef) rfl (by kernel_rfl) (by kernel_rfl) (by kernel_rfl) (fun _ _ _ h => h) (Or.inr ⟨by rfl, rfl⟩) (by assumption) ?_
                try simp only [Act.put, List.setIfInBounds_toArray, List.set_cons_zero, List.set_cons_succ]
                refine wpAnyH_take (i := 10) (oi := ⟨_, _, _, _, _, _⟩) (v := undef) rfl (by kernel_rfl) (by kernel_rfl) (by kernel_rfl) (fun _ _ _ h => h) (Or.inr ⟨by rfl, rfl⟩) (by assumption) ?_
                try simp only [Act.put, List.setIfInBounds_toArray, List.set_cons_zero, List.set_cons_succ]
                refine wpAnyH_take (i := 11) (oi := ⟨_, _, _, _, _, _⟩) (v := undef) rfl (by kernel_rfl) (by kernel_rfl) (by kernel_rfl) (fun _ _ _ h => h) (Or.inr ⟨by rfl, rfl⟩) (by assumption) ?_
                try simp only [Act.put, List.setIfInBounds_toArray, List.set_cons_zero, List.set_cons_succ]
                refine wpAnyH_take (i := 12) (oi := ⟨_, _, _, _, _, _⟩) (v := undef) rfl (by kernel_rfl) (by kernel_rfl) (by kernel_rfl) (fun _ _ _ h => h) (Or.inr ⟨by rfl, rfl⟩) (by assumption) ?_
                try simp only [Act.put, List.setIfInBounds_toArray, List.set_cons_zero, List.set_cons_succ]
                refine wpAnyH_take (i := 13) (oi := ⟨_, _, _, _, _, _⟩) (v := undef) rfl (by kernel_rfl) (by kernel_rfl) (by kernel_rfl) (fun _ _ _ h => h) (Or.inr ⟨by rfl, rfl⟩) (by assumption) ?_
                try simp only [Act.put, List.setIfInBounds_toArray, List.set_cons_zero, List.set_cons_succ]
                refine wpAnyH_take (i := 14) (oi := ⟨_, _, _, _, _, _⟩) (v := undef) rfl (by kernel_rfl) (by kernel_rfl) (by kernel_rfl) (fun _ _ _ h => h) (Or.inr ⟨by rfl, rfl⟩) (by assumption) ?_
                try simp only [Act.put, List.setIfInBounds_toArray, List.set_cons_zero, List.set_cons_succ]
                refine wpAnyH_take (i := 15) (oi := ⟨_, _, _, _, _, _⟩) (v := undef) rfl (by kernel_rfl) (by kernel_rfl) (by kernel_rfl) (fun _ _ _ h => h) (Or.inr ⟨by rfl, rfl⟩) (by assumption) ?_
                try simp only [Act.put, List.setIfInBounds_toArray, List.set_cons_zero, List.set_cons_succ]
                refine wpAnyH_take (i := 16) (oi := ⟨_, _, _, _, _, _⟩) (v := undef) rfl (by kernel_rfl) (by kernel_rfl) (by kernel_rfl) (fun _ _ _ h => h) (Or.inr ⟨by rfl, rfl⟩) (by assumption) ?_
                try simp only [Act.put, List.setIfInBounds_toArray, List.set_cons_zero, List.set_cons_succ]
                refine wpAnyH_take (i := 17) (oi := ⟨_, _, _, _, _, _⟩) (v := undef) rfl (by kernel_rfl) (by kernel_rfl) (by kernel_rfl) (fun _ _ _ h => h) (Or.inr ⟨by rfl, rfl⟩) (by assumption) ?_
                try simp only [Act.put, List.setIfInBounds_toArray, List.set_cons_zero, List.set_cons_succ]
                refine wpAnyH_take (i := 18) (oi := ⟨_, _, _, _, _, _⟩) (v := undef) rfl (by kernel_rfl) (by kernel_rfl) (by kernel_rfl) (fun _ _ _ h => h) (Or.inr ⟨by rfl, rfl⟩) (by assumption) ?_
                try simp only [Act.put, List.setIfInBounds_toArray, List.set_cons_zero, List.set_cons_succ]
                refine wpAnyH_take (i := 19) (oi := ⟨_, _, _, _, _, _⟩) (v := undef) rfl (by kernel_rfl) (by kernel_rfl) (by kernel_rfl) (fun _ _ _ h => h) (Or.inr ⟨by rfl, rfl⟩) (by assumption) ?_
                try simp only [Act.put, List.setIfInBounds_toArray, List.set_cons_zero, List.set_cons_succ]
                refine wpAnyH_take (i := 20) (oi := ⟨_, _, _, _, _, _⟩) (v := undef) rfl (by kernel_rfl) (by kernel_rfl) (by kernel_rfl) (fun _ _ _ h => h) (Or.inr ⟨by rfl, rfl⟩) (by assumption) ?_
                try simp only [Act.put, List.setIfInBounds_toArray, List.set_cons_zero, List.set_cons_succ]
                refine wpAnyH_take (i := 21) (oi := ⟨_, _, _, _, _, _⟩) (v := undef) rfl (by kernel_rfl) (by kernel_rfl) (by kernel_rfl) (fun _ _ _ h => h) (Or.inr ⟨by rfl, rfl⟩) (by assumption) ?_
                try simp only [Act.put, List.setIfInBounds_toArray, List.set_cons_zero, List.set_cons_succ]
                refine wpAnyH_take (i := 22) (oi := ⟨_, _, _, _, _, _⟩) (v := undef) rfl (by kernel_rfl) (by kernel_rfl) (by kernel_rfl) (fun _ _ _ h => h) (Or.inr ⟨by rfl, rfl⟩) (by assumption) ?_
                try simp only [Act.put, List.setIfInBounds_toArray, List.set_cons_zero, List.set_cons_succ]
                refine wpAnyH_take (i := 23) (oi := ⟨_, _, _, _, _, _⟩) (v := undef) rfl (by kernel_rfl) (by kernel_rfl) (by kernel_rfl) (fun _ _ _ h => h) (Or.inr ⟨by rfl, rfl⟩) (by assumption) ?_
                try simp only [Act.put, List.setIfInBounds_toArray, List.set_cons_zero, List.set_cons_succ]
                refine wpAnyH_take (i := 24) (oi := ⟨_, _, _, _, _, _⟩) (v := undef) rfl (by kernel_rfl) (by kernel_rfl) (by kernel_rfl) (fun _ _ _ h => h) (Or.inr ⟨by rfl, rfl⟩) (by assumption) ?_
                try simp only [Act.put, List.setIfInBounds_toArray, List.set_cons_zero, List.set_cons_succ]
                refine wpAnyH_take (i := 25) (oi := ⟨_, _, _, _, _, _⟩) (v := undef) rfl (by kernel_rfl) (by kernel_rfl) (by kernel_rfl) (fun _ _ _ h => h) (Or.inr ⟨by rfl, rfl⟩) (by assumption) ?_
                try simp only [Act.put, List.setIfInBounds_toArray, List.set_cons_zero, List.set_cons_succ]
                refine wpAnyH_take (i := 26) (oi := ⟨_, _, _, _, _, _⟩) (v := undef) rfl (by kernel_rfl) (by kernel_rfl) (by kernel_rfl) (fun _ _ _ h => h) (Or.inr ⟨by rfl, rfl⟩) (by assumption) ?_
                try simp only [Act.put, List.setIfInBounds_toArray, List.set_cons_zero, List.set_cons_succ]
                refine wpAnyH_take (i := 27) (oi := ⟨_, _, _, _, _, _⟩) (v := undef) rfl (by kernel_rfl) (by kernel_rfl) (by kernel_rfl) (fun _ _ _ h => h) (Or.inr ⟨by rfl, rfl⟩) (by assumption) ?_
                try simp only [Act.put, List.setIfInBounds_toArray, List.set_cons_zero, List.set_cons_succ]
                refine wpAnyH_take (i := 28) (oi := ⟨_, _, _, _, _, _⟩) (v := undef) rfl (by kernel_rfl) (by kernel_rfl) (by kernel_rfl) (fun _ _ _ h => h) (Or.inr ⟨by rfl, rfl⟩) (by assumption) ?_
                try simp only [Act.put, List.setIfInBounds_toArray, List.set_cons_zero, List.set_cons_succ]
                refine wpAnyH_take (i := 29) (oi := ⟨_, _, _, _, _, _⟩) (v := undef) rfl (by kernel_rfl) (by kernel_rfl) (by kernel_rfl) (fun _ _ _ h => h) (Or.inr ⟨by rfl, rfl⟩) (by assumption) ?_
                try simp only [Act.put, List.setIfInBounds_toArray, List.set_cons_zero, List.set_cons_succ]
                refine wpAnyH_take (i := 30) (oi := ⟨_, _, _, _, _, _⟩) (v := undef) rfl (by kernel_rfl) (by kernel_rfl) (by kernel_rfl) (fun _ _ _ h => h) (Or.inr ⟨by rfl, rfl⟩) (by assumption) ?_
                try simp only [Act.put, List.setIfInBounds_toArray, List.set_cons_zero, List.set_cons_succ]
                refine wpAnyH_take (i := 31) (oi := ⟨_, _, _, _, _, _⟩) (v := undef) rfl (by kernel_rfl) (by kernel_rfl) (by kernel_rfl) (fun _ _ _ h => h) (Or.inr ⟨by rfl, rfl⟩) (by assumption) ?_
                try simp only [Act.put, List.setIfInBounds_toArray, List.set_cons_zero, List.set_cons_succ]
                refine wpAnyH_take (i := 32) (oi := ⟨_, _, _, _, _, _⟩) (v := undef) rfl (by kernel_rfl) (by kernel_rfl) (by kernel_rfl) (fun _ _ _ h => h) (Or.inr ⟨by rfl, rfl⟩) (by assumption) ?_
                try simp only [Act.put, List.setIfInBounds_toArray, List.set_cons_zero, List.set_cons_succ]
                refine wpAnyH_take (i := 33) (oi := ⟨_, _, _, _, _, _⟩) (v := undef) rfl (by kernel_rfl) (by kernel_rfl) (by kernel_rfl) (fun _ _ _ h => h) (Or.inr ⟨by rfl, rfl⟩) (by assumption) ?_
                try simp only [Act.put, List.setIfInBounds_toArray, List.set_cons_zero, List.set_cons_succ]
                refine wpAnyH_take (i := 34) (oi := ⟨_, _, _, _, _, _⟩) (v := undef) rfl (by kernel_rfl) (by kernel_rfl) (by kernel_rfl) (fun _ _ _ h => h) (Or.inr ⟨by rfl, rfl⟩) (by assumption) ?_
                try simp only [Act.put, List.setIfInBounds_toArray, List.set_cons_zero, List.set_cons_succ]
                refine wpAnyH_take (i := 35) (oi := ⟨_, _, _, _, _, _⟩) (v := undef) rfl (by kernel_rfl) (by kernel_rfl) (by kernel_rfl) (fun _ _ _ h => h) (Or.inr ⟨by rfl, rfl⟩) (by assumption) ?_
                try simp only [Act.put, List.setIfInBounds_toArray, List.set_cons_zero, List.set_cons_succ]
                refine wpAnyH_take (i := 36) (oi := ⟨_, _, _, _, _, _⟩) (v := ?_) rfl (by kernel_rfl) (by kernel_rfl) (by kernel_rfl) (fun _ _ _ h => h) (Or.inl ⟨by rfl, ?_⟩) (by assumption) ?_
                rotate_left
                · intro w hSw; (try dsimp only at hSw); first | (go_simp; done) | (go_simp; with_reducible rfl)
                try simp only [Act.put, List.setIfInBounds_toArray, List.set_cons_zero, List.set_cons_succ]
                refine wpAnyH_done (by kernel_rfl) ?_ _
                refine NoPanic.normal ?_
                go_wp2_with fail
                go_meet
                exact ⟨rfl, by assumption⟩
          case rest =>
            as_aux_lemma =>
            obtain ⟨rfl, hB⟩ := hcut
            obtain ⟨we, h_e⟩ : ∃ we, we = wc := ⟨_, rfl⟩
            subst h_e
            have hb := hB.out
            have B0 := hideD (beyondD B0.out hb)
            have c0 := hideD (kc _ _ hb c0.out)
            have c3 := hideD (kc _ _ hb c3.out)
            have c4 := hideD (kc _ _ hb c4.out)
            have c5 := hideD (kc _ _ hb c5.out)
            have Z := hideD (Z.out.past hb)
            have U := hideD (U.out.past hb)
            have VS := hideD (VS.out.later hb)
            clear hb
            clear hB RS
            have T4 := hideD (AS.out.t4 we b Z.out)
            have y3 := c3.out
            have y4 := c4.out
            go_wp2_with fail
            refine T4.out.mono ?_
            rintro e wf ⟨⟨pu, eu, rfl, hu⟩, hb⟩
            clear y3 y4
            have B0 := hideD (beyondD B0.out hb)
            have c0 := hideD (kc _ _ hb c0.out)
            have c3 := hideD (kc _ _ hb c3.out)
            have c4 := hideD (kc _ _ hb c4.out)
            have c5 := hideD (kc _ _ hb c5.out)
            have Z := hideD (Z.out.past hb)
            have U := hideD (U.out.past hb)
            have VS := hideD (VS.out.later hb)
            clear hb
            have UX := hideD hu
            clear hu T4 c3 c4
            go_upto_region 19 with (fail)
            go_cut [206] (fun s wx => s = .bool false ∧ Hid (Below wf.heap.size wf wx))
            case first =>
              as_aux_lemma =>
                by_cases ez : eu = 0
                · obtain ⟨c4r, b4, h1, rfl, h3⟩ := UX.out ez
                  obtain ⟨f0, fq, hin⟩ := AS.out.s4 c4r h1
                  rw [E5.out] at f0 fq hin
                  dsimp only at f0 fq hin
                  subst ez f0
                  have INu := in_at N8 HM.out h3 Hq.out q1.out HNil.out (HV.out.later B0.out) HI.out
                  have INs := in_at N8 HM.out Z.out rfl (by have := q1.out; omega) SN.out VS.out sI.out
                  rw [hin] at INu
                  generalize inB q m c sl = bi at *
                  have c0x := c0.out
                  clear UX AS sI sq E5 VS SN h3 h1 hin fq
                  go_wp2_with fail
                  refine (INu.out _ (Below.refl _ _)).mono ?_
                  rintro e wx ⟨rfl, hb⟩
                  have hb := hideD hb
                  go_wp2_with fail
                  refine (INs.out _ hb.out).mono ?_
                  rintro e wy ⟨rfl, hb2⟩
                  have hb2 := hideD (beyondD hb.out hb2)
                  cases bi with
                  | true =>
                    go_wp2_with fail
                    go_meet
                    exact ⟨rfl, hb2⟩
                  | false =>
                    go_wp2_with fail
                    go_meet
                    exact ⟨rfl, hb2⟩
                · have ez : (eu == 0) = false := by simpa using ez
                  clear UX AS sI sq E5 VS SN
                  go_wp2_with fail
                  go_meet
                  exact ⟨rfl, Below.refl _ _⟩
            case rest =>
              as_aux_lemma =>
              obtain ⟨rfl, hB⟩ := hcut
              obtain ⟨wg, h_g⟩ : ∃ wg, wg = wc := ⟨_, rfl⟩
              subst h_g
              have hb := hB.out
              have B0 := hideD (beyondD B0.out hb)
              have c0 := hideD (kc _ _ hb c0.out)
              have c5 := hideD (kc _ _ hb c5.out)
              have Z := hideD (Z.out.past hb)
              have U := hideD (U.out.past hb)
              clear hb
              clear hB UX AS sI sq E5 VS SN
              have T5 := hideD (guaP_any (L := L) (cap := capg) N8 HM.out ZC0.out fit.out Z.out Hgq.out (HGV.out.past B0.out) Hk.out (by have h1 := HbG.out; have h2 := Hgq.out; omega))
              have y5 := c5.out
              go_wp2_with fail
              refine T5.out.mono ?_
              rintro e wh ⟨⟨pg, eg, rfl, hg⟩, hb⟩
              clear y5
              have B0 := hideD (beyondD B0.out hb)
              have c0 := hideD (kc _ _ hb c0.out)
              have c5 := hideD (kc _ _ hb c5.out)
              have Z := hideD (Z.out.past hb)
              have U := hideD (U.out.past hb)
              clear hb
              have GX := hideD hg
              have T6 := hideD (HHo.out wh B0.out)
              clear hg T5 HHo
              obtain ⟨⟨yb, ye⟩, eh⟩ : ∃ ht, holdsT6 L G = ht := ⟨_, rfl⟩
              rw [eh] at T6
              have EH := hideD eh
              dsimp only at T6
              clear eh
              have y0 := c0.out
              have y5 := c5.out
              go_wp2_with fail
              refine T6.out.mono ?_
              rintro e wi ⟨rfl, hb⟩
              clear y0 y5
              have GX : Hid (eg = 0 → ∃ c6 b6, pg = some ⟨b6, 0, none⟩ ∧ ZoneAt wi b6 q c6 ∧ ye = 0 ∧ inB q m c6 L = (inB q m c L && yb)) := fun e => by
                obtain ⟨c6, b6, h1, h2, h3, h4⟩ := GX.out e
                rw [EH.out] at h3 h4
                exact ⟨c6, b6, h1, h2.past hb, h3, h4⟩
              skip
              have B0 := hideD (beyondD B0.out hb)
              have c0 := hideD (kc _ _ hb c0.out)
              have c5 := hideD (kc _ _ hb c5.out)
              have Z := hideD (Z.out.past hb)
              have U := hideD (U.out.past hb)
              clear hb
              clear T6 EH
              go_upto_region 23 with (fail)
              go_cut [241] (fun s wx => s = .bool false ∧ Hid (Below wi.heap.size wi wx))
              case first =>
                as_aux_lemma =>
                  by_cases ez : eg = 0
                  · obtain ⟨c6, b6, rfl, h3, h4, h5⟩ := GX.out ez
                    subst ez h4
                    have INz := in_at N8 HM.out Z.out Hq.out q1.out HNil.out (HV.out.later B0.out) HI.out
                    have INg := in_at N8 HM.out h3 Hq.out q1.out HNil.out (HV.out.later B0.out) HI.out
                    rw [h5] at INg
                    clear GX h3 h5 HV HGV HNil Hgq Hk HbG Ic Inn U ZC1 IC E0 c5
                    generalize inB q m c L = iz at *
                    cases iz with
                    | true =>
                      rw [Bool.true_and] at INg
                      cases yb with
                      | true =>
                        refine w23_11 q b bm b6 cap ad _ _ _ _ _ _ _ _ _ _ _ _ _ _ _ _ _ _ _ _ _ _ _ _ _ _ _ _ _ _ _ _ _ _ _ _ _ _ _ _ _ _ _ _ _ _ _ _ _ _ _ _ _ _ _ _ _ _ _ _ _ _ _ _ _ _ _ _ _ _ _ _ _ _ _ _ _ _ _ _ _ _ _ _ _ _ _ _ _ _ _ _ _ _ _ _ _ _ _ _ _ _ _ _ _ _ _ _ _ _ _ _ _ _ _ _ _ _ _ _ _ _ _ _ _ _ _ _ _ _ _ _ _ _ _ _ _ _ _ _ _ _ _ _ _ _ _ _ _ _ _ _ _ _ _ _ _ _ _ _ _ _ _ _ _ _ _ _ _ _ _ _ _ _ _ _ _ _ _ _ _ _ _ _ _ _ _ _ _ _ _ _ _ _ _ _ _ _ _ _ _ _ _ _ _ _ _ _ _ _ _ _ _ _ _ _ _ _ _ _ _ _ _ _ _ _ _ _ _ _ _ _ _ _ _ _ _ _ _ _ _ _ _ _ _ _ _ _ _ _ _ _ _ _ _ _ wi _ INg INz c0 ?_
                        intro y222 y223 y224 y225 y226 y227 y228 y229 y230 y231 y232 y233 y234 y235 y236 y237 y238 y239 y240 w' hb'
                        go_wp2_with fail
                        go_meet
                        exact ⟨rfl, hb'⟩
                      | false =>
                        refine w23_10 q b bm b6 cap ad _ _ _ _ _ _ _ _ _ _ _ _ _ _ _ _ _ _ _ _ _ _ _ _ _ _ _ _ _ _ _ _ _ _ _ _ _ _ _ _ _ _ _ _ _ _ _ _ _ _ _ _ _ _ _ _ _ _ _ _ _ _ _ _ _ _ _ _ _ _ _ _ _ _ _ _ _ _ _ _ _ _ _ _ _ _ _ _ _ _ _ _ _ _ _ _ _ _ _ _ _ _ _ _ _ _ _ _ _ _ _ _ _ _ _ _ _ _ _ _ _ _ _ _ _ _ _ _ _ _ _ _ _ _ _ _ _ _ _ _ _ _ _ _ _ _ _ _ _ _ _ _ _ _ _ _ _ _ _ _ _ _ _ _ _ _ _ _ _ _ _ _ _ _ _ _ _ _ _ _ _ _ _ _ _ _ _ _ _ _ _ _ _ _ _ _ _ _ _ _ _ _ _ _ _ _ _ _ _ _ _ _ _ _ _ _ _ _ _ _ _ _ _ _ _ _ _ _ _ _ _ _ _ _ _ _ _ _ _ _ _ _ _ _ _ _ _ _ _ _ _ _ _ _ _ _ wi _ INg INz c0 ?_
                        intro y222 y223 y224 y225 y226 y227 y228 y229 y230 y231 y232 y233 y234 y235 y236 y237 y238 y239 y240 w' hb'
                        go_wp2_with fail
                        go_meet
                        exact ⟨rfl, hb'⟩
                    | false =>
                      rw [Bool.false_and] at INg
                      cases yb with
                      | true =>
                        refine w23_01 q b bm b6 cap ad _ _ _ _ _ _ _ _ _ _ _ _ _ _ _ _ _ _ _ _ _ _ _ _ _ _ _ _ _ _ _ _ _ _ _ _ _ _ _ _ _ _ _ _ _ _ _ _ _ _ _ _ _ _ _ _ _ _ _ _ _ _ _ _ _ _ _ _ _ _ _ _ _ _ _ _ _ _ _ _ _ _ _ _ _ _ _ _ _ _ _ _ _ _ _ _ _ _ _ _ _ _ _ _ _ _ _ _ _ _ _ _ _ _ _ _ _ _ _ _ _ _ _ _ _ _ _ _ _ _ _ _ _ _ _ _ _ _ _ _ _ _ _ _ _ _ _ _ _ _ _ _ _ _ _ _ _ _ _ _ _ _ _ _ _ _ _ _ _ _ _ _ _ _ _ _ _ _ _ _ _ _ _ _ _ _ _ _ _ _ _ _ _ _ _ _ _ _ _ _ _ _ _ _ _ _ _ _ _ _ _ _ _ _ _ _ _ _ _ _ _ _ _ _ _ _ _ _ _ _ _ _ _ _ _ _ _ _ _ _ _ _ _ _ _ _ _ _ _ _ _ _ _ _ _ _ wi _ INg INz c0 ?_
                        intro y222 y223 y224 y225 y226 y227 y228 y229 y230 y231 y232 y233 y234 y235 y236 y237 y238 y239 y240 w' hb'
                        go_wp2_with fail
                        go_meet
                        exact ⟨rfl, hb'⟩
                      | false =>
                        refine w23_00 q b bm b6 cap ad _ _ _ _ _ _ _ _ _ _ _ _ _ _ _ _ _ _ _ _ _ _ _ _ _ _ _ _ _ _ _ _ _ _ _ _ _ _ _ _ _ _ _ _ _ _ _ _ _ _ _ _ _ _ _ _ _ _ _ _ _ _ _ _ _ _ _ _ _ _ _ _ _ _ _ _ _ _ _ _ _ _ _ _ _ _ _ _ _ _ _ _ _ _ _ _ _ _ _ _ _ _ _ _ _ _ _ _ _ _ _ _ _ _ _ _ _ _ _ _ _ _ _ _ _ _ _ _ _ _ _ _ _ _ _ _ _ _ _ _ _ _ _ _ _ _ _ _ _ _ _ _ _ _ _ _ _ _ _ _ _ _ _ _ _ _ _ _ _ _ _ _ _ _ _ _ _ _ _ _ _ _ _ _ _ _ _ _ _ _ _ _ _ _ _ _ _ _ _ _ _ _ _ _ _ _ _ _ _ _ _ _ _ _ _ _ _ _ _ _ _ _ _ _ _ _ _ _ _ _ _ _ _ _ _ _ _ _ _ _ _ _ _ _ _ _ _ _ _ _ _ _ _ _ _ _ wi _ INg INz c0 ?_
                        intro y222 y223 y224 y225 y226 y227 y228 y229 y230 y231 y232 y233 y234 y235 y236 y237 y238 y239 y240 w' hb'
                        go_wp2_with fail
                        go_meet
                        exact ⟨rfl, hb'⟩
                  · have ez : (eg == 0) = false := by simpa using ez
                    clear GX
                    refine wp_region_noPanic ?_
                    refine wp_region_held_drew (S := fun w' => Below wi.heap.size wi w') (by kernel_rfl) ?_ (fun hHeld => ?_)
                    · exact (Below.refl _ _).drew
                    refine wpAnyH_take (i := 0) (oi := ⟨_, _, _, _, _, _⟩) (v := ?_) rfl (by kernel_rfl) (by kernel_rfl) (by kernel_rfl) (fun _ _ _ h => h) (Or.inl ⟨by rfl, ?_⟩) (by assumption) ?_
                    rotate_left
                    · intro w hSw; (try dsimp only at hSw); first | (go_simp; done) | (go_simp; with_reducible rfl)
                    try simp only [Act.put, List.setIfInBounds_toArray, List.set_cons_zero, List.set_cons_succ]
                    refine wpAnyH_take (i := 1) (oi := ⟨_, _, _, _, _, _⟩) (v := ?_) rfl (by kernel_rfl) (by kernel_rfl) (by kernel_rfl) (fun _ _ _ h => h) (Or.inl ⟨by rfl, ?_⟩) (by assumption) ?_
                    rotate_left
                    · intro w hSw; (try dsimp only at hSw); first | (go_simp; done) | (go_simp; with_reducible rfl)
                    try simp only [Act.put, List.setIfInBounds_toArray, List.set_cons_zero, List.set_cons_succ]
                    refine wpAnyH_take (i := 2) (oi := ⟨_, _, _, _, _, _⟩) (v := ?_) rfl (by kernel_rfl) (by kernel_rfl) (by kernel_rfl) (fun _ _ _ h => h) (Or.inl ⟨by rfl, ?_⟩) (by assumption) ?_
                    rotate_left
                    · intro w hSw; (try dsimp only at hSw); first | (go_simp; done) | (go_simp; with_reducible rfl)
                    try simp only [Act.put, List.setIfInBounds_toArray, List.set_cons_zero, List.set_cons_succ]
                    refine wpAnyH_take (i := 3) (oi := ⟨_, _, _, _, _, _⟩) (v := undef) rfl (by kernel_rfl) (by kernel_rfl) (by kernel_rfl) (fun _ _ _ h => h) (Or.inr ⟨by rfl, rfl⟩) (by assumption) ?_
                    try simp only [Act.put, List.setIfInBounds_toArray, List.set_cons_zero, List.set_cons_succ]
                    refine wpAnyH_take (i := 4) (oi := ⟨_, _, _, _, _, _⟩) (v := undef) rfl (by kernel_rfl) (by kernel_rfl) (by kernel_rfl) (fun _ _ _ h => h) (Or.inr ⟨by rfl, rfl⟩) (by assumption) ?_
                    try simp only [Act.put, List.setIfInBounds_toArray, List.set_cons_zero, List.set_cons_succ]
                    refine wpAnyH_take (i := 5) (oi := ⟨_, _, _, _, _, _⟩) (v := undef) rfl (by kernel_rfl) (by kernel_rfl) (by kernel_rfl) (fun _ _ _ h => h) (Or.inr ⟨by rfl, rfl⟩) (by assumption) ?_
                    try simp only [Act.put, List.setIfInBounds_toArray, List.set_cons_zero, List.set_cons_succ]
                    refine wpAnyH_take (i := 6) (oi := ⟨_, _, _, _, _, _⟩) (v := undef) rfl (by kernel_rfl) (by kernel_rfl) (by kernel_rfl) (fun _ _ _ h => h) (Or.inr ⟨by rfl, rfl⟩) (by assumption) ?_
                    try simp only [Act.put, List.setIfInBounds_toArray, List.set_cons_zero, List.set_cons_succ]
                    refine wpAnyH_take (i := 7) (oi := ⟨_, _, _, _, _, _⟩) (v := undef) rfl (by kernel_rfl) (by kernel_rfl) (by kernel_rfl) (fun _ _ _ h => h) (Or.inr ⟨by rfl, rfl⟩) (by assumption) ?_
                    try simp only [Act.put, List.setIfInBounds_toArray, List.set_cons_zero, List.set_cons_succ]
                    refine wpAnyH_take (i := 8) (oi := ⟨_, _, _, _, _, _⟩) (v := undef) rfl (by kernel_rfl) (by kernel_rfl) (by kernel_rfl) (fun _ _ _ h => h) (Or.inr ⟨by rfl, rfl⟩) (by assumption) ?_
                    try simp only [Act.put, List.setIfInBounds_toArray, List.set_cons_zero, List.set_cons_succ]
                    refine wpAnyH_take (i := 9) (oi := ⟨_, _, _, _, _, _⟩) (v := undef) rfl (by kernel_rfl) (by kernel_rfl) (by kernel_rfl) (fun _ _ _ h => h) (Or.inr ⟨by rfl, rfl⟩) (by assumption) ?_
                    try simp only [Act.put, List.setIfInBounds_toArray, List.set_cons_zero, List.set_cons_succ]
                    refine wpAnyH_take (i := 10) (oi := ⟨_, _, _, _, _, _⟩) (v := undef) rfl (by kernel_rfl) (by kernel_rfl) (by kernel_rfl) (fun _ _ _ h => h) (Or.inr ⟨by rfl, rfl⟩) (by assumption) ?_
                    try simp only [Act.put, List.setIfInBounds_toArray, List.set_cons_zero, List.set_cons_succ]
                    refine wpAnyH_take (i := 11) (oi := ⟨_, _, _, _, _, _⟩) (v := undef) rfl (by kernel_rfl) (by kernel_rfl) (by kernel_rfl) (fun _ _ _ h => h) (Or.inr ⟨by rfl, rfl⟩) (by assumption) ?_
                    try simp only [Act.put, List.setIfInBounds_toArray, List.set_cons_zero, List.set_cons_succ]
                    refine wpAnyH_take (i := 12) (oi := ⟨_, _, _, _, _, _⟩) (v := undef) rfl (by kernel_rfl) (by kernel_rfl) (by kernel_rfl) (fun _ _ _ h => h) (Or.inr ⟨by rfl, rfl⟩) (by assumption) ?_
                    try simp only [Act.put, List.setIfInBounds_toArray, List.set_cons_zero, List.set_cons_succ]
                    refine wpAnyH_take (i := 13) (oi := ⟨_, _, _, _, _, _⟩) (v := undef) rfl (by kernel_rfl) (by kernel_rfl) (by kernel_rfl) (fun _ _ _ h => h) (Or.inr ⟨by rfl, rfl⟩) (by assumption) ?_
                    try simp only [Act.put, List.setIfInBounds_toArray, List.set_cons_zero, List.set_cons_succ]
                    refine wpAnyH_take (i := 14) (oi := ⟨_, _, _, _, _, _⟩) (v := undef) rfl (by kernel_rfl) (by kernel_rfl) (by kernel_rfl) (fun _ _ _ h => h) (Or.inr ⟨by rfl, rfl⟩) (by assumption) ?_
                    try simp only [Act.put, List.setIfInBounds_toArray, List.set_cons_zero, List.set_cons_succ]
                    refine wpAnyH_take (i := 15) (oi := ⟨_, _, _, _, _, _⟩) (v := undef) rfl (by kernel_rfl) (by kernel_rfl) (by kernel_rfl) (fun _ _ _ h => h) (Or.inr ⟨by rfl, rfl⟩) (by assumption) ?_
                    try simp only [Act.put, List.setIfInBounds_toArray, List.set_cons_zero, List.set_cons_succ]
                    refine wpAnyH_take (i := 16) (oi := ⟨_, _, _, _, _, _⟩) (v := undef) rfl (by kernel_rfl) (by kernel_rfl) (by kernel_rfl) (fun _ _ _ h => h) (Or.inr ⟨by rfl, rfl⟩) (by assumption) ?_
                    try simp only [Act.put, List.setIfInBounds_toArray, List.set_cons_zero, List.set_cons_succ]
                    refine wpAnyH_take (i := 17) (oi := ⟨_, _, _, _, _, _⟩) (v := undef) rfl (by kernel_rfl) (by kernel_rfl) (by kernel_rfl) (fun _ _ _ h => h) (Or.inr ⟨by rfl, rfl⟩) (by assumption) ?_
                    try simp only [Act.put, List.setIfInBounds_toArray, List.set_cons_zero, List.set_cons_succ]
                    refine wpAnyH_take (i := 18) (oi := ⟨_, _, _, _, _, _⟩) (v := undef) rfl (by kernel_rfl) (by kernel_rfl) (by kernel_rfl) (fun _ _ _ h => h) (Or.inr ⟨by rfl, rfl⟩) (by assumption) ?_
                    try simp only [Act.put, List.setIfInBounds_toArray, List.set_cons_zero, List.set_cons_succ]
                    refine wpAnyH_take (i := 19) (oi := ⟨_, _, _, _, _, _⟩) (v := ?_) rfl (by kernel_rfl) (by kernel_rfl) (by kernel_rfl) (fun _ _ _ h => h) (Or.inl ⟨by rfl, ?_⟩) (by assumption) ?_
                    rotate_left
                    · intro w hSw; (try dsimp only at hSw); first | (go_simp; done) | (go_simp; with_reducible rfl)
                    try simp only [Act.put, List.setIfInBounds_toArray, List.set_cons_zero, List.set_cons_succ]
                    refine wpAnyH_done (by kernel_rfl) ?_ _
                    refine NoPanic.normal ?_
                    go_wp2_with fail
                    go_meet
                    exact ⟨rfl, by assumption⟩
              case rest =>
                as_aux_lemma =>
                obtain ⟨rfl, hB⟩ := hcut
                obtain ⟨wj, h_j⟩ : ∃ wj, wj = wc := ⟨_, rfl⟩
                subst h_j
                have hb := hB.out
                have B0 := hideD (beyondD B0.out hb)
                have c0 := hideD (kc _ _ hb c0.out)
                have Z := hideD (Z.out.past hb)
                have U := hideD (U.out.past hb)
                clear hb
                clear hB GX c5
                have hb := single wj (.cells #[.pointer (some ⟨b1, 0, none⟩)] 60)
                have hg := (show (wj.alloc (.cells #[.pointer (some ⟨b1, 0, none⟩)] 60)).cell? ⟨wj.heap.size, 0, none⟩ = some (.pointer (some ⟨b1, 0, none⟩)) by simp [go_sem])
                have T7 := hideD (and_say (cap := 1) N8 HM.out ZC0.out ZC1.out IC.out E0.out (Z.out.past hb) (U.out.past hb) hg)
                unfold OTells at T7
                go_wp2_with fail
                have B0 := hideD (beyondD B0.out hb)
                have c0 := hideD (kc _ _ hb c0.out)
                have Z := hideD (Z.out.past hb)
                have U := hideD (U.out.past hb)
                clear hb
                clear hg
                generalize wj.alloc (.cells #[.pointer (some ⟨b1, 0, none⟩)] 60) = wk at *
                refine T7.out.mono ?_
                rintro e wl ⟨⟨BB3, b3, -, rfl, hz3⟩, hb⟩
                have B0 := hideD (beyondD B0.out hb)
                have c0 := hideD (kc _ _ hb c0.out)
                have Z := hideD (Z.out.past hb)
                have U := hideD (U.out.past hb)
                clear hb
                clear T7
                have INz := in_at N8 HM.out Z.out Hq.out q1.out HNil.out (HV.out.later B0.out) HI.out
                have INa := in_at N8 HM.out hz3 Hq.out q1.out HNil.out (HV.out.later B0.out) HI.out
                clear hz3
                generalize inB q m c L = iz at *
                go_upto_region 26 with (fail)
                go_cut [6] (fun s wx => s = .bool true ∧ Hid (Below wl.heap.size wl wx))
                case first =>
                  as_aux_lemma =>
                    cases iz with
                    | true =>
                      refine w26_1 q b bm b3 cap ad _ _ _ _ _ _ _ _ _ _ _ _ _ _ _ _ _ _ _ _ _ _ _ _ _ _ _ _ _ _ _ _ _ _ _ _ _ _ _ _ _ _ _ _ _ _ _ _ _ _ _ _ _ _ _ _ _ _ _ _ _ _ _ _ _ _ _ _ _ _ _ _ _ _ _ _ _ _ _ _ _ _ _ _ _ _ _ _ _ _ _ _ _ _ _ _ _ _ _ _ _ _ _ _ _ _ _ _ _ _ _ _ _ _ _ _ _ _ _ _ _ _ _ _ _ _ _ _ _ _ _ _ _ _ _ _ _ _ _ _ _ _ _ _ _ _ _ _ _ _ _ _ _ _ _ _ _ _ _ _ _ _ _ _ _ _ _ _ _ _ _ _ _ _ _ _ _ _ _ _ _ _ _ _ _ _ _ _ _ _ _ _ _ _ _ _ _ _ _ _ _ _ _ _ _ _ _ _ _ _ _ _ _ _ _ _ _ _ _ _ _ _ _ _ _ _ _ _ _ _ _ _ _ _ _ _ _ _ _ _ _ _ _ _ _ _ _ _ _ _ _ _ _ _ _ _ _ _ wl _ INa INz c0 ?_
                      intro y249 y250 y251 y252 y253 y254 y255 y256 y257 y258 y259 y260 y261 w' hb'
                      go_wp2_with fail
                      go_meet
                      exact ⟨rfl, hb'⟩
                    | false =>
                      refine w26_0 q b bm b3 cap ad _ _ _ _ _ _ _ _ _ _ _ _ _ _ _ _ _ _ _ _ _ _ _ _ _ _ _ _ _ _ _ _ _ _ _ _ _ _ _ _ _ _ _ _ _ _ _ _ _ _ _ _ _ _ _ _ _ _ _ _ _ _ _ _ _ _ _ _ _ _ _ _ _ _ _ _ _ _ _ _ _ _ _ _ _ _ _ _ _ _ _ _ _ _ _ _ _ _ _ _ _ _ _ _ _ _ _ _ _ _ _ _ _ _ _ _ _ _ _ _ _ _ _ _ _ _ _ _ _ _ _ _ _ _ _ _ _ _ _ _ _ _ _ _ _ _ _ _ _ _ _ _ _ _ _ _ _ _ _ _ _ _ _ _ _ _ _ _ _ _ _ _ _ _ _ _ _ _ _ _ _ _ _ _ _ _ _ _ _ _ _ _ _ _ _ _ _ _ _ _ _ _ _ _ _ _ _ _ _ _ _ _ _ _ _ _ _ _ _ _ _ _ _ _ _ _ _ _ _ _ _ _ _ _ _ _ _ _ _ _ _ _ _ _ _ _ _ _ _ _ _ _ _ _ _ _ _ _ wl _ INa INz c0 ?_
                      intro y249 y250 y251 y252 y253 y254 y255 y256 y257 y258 y259 y260 y261 w' hb'
                      go_wp2_with fail
                      go_meet
                      exact ⟨rfl, hb'⟩
                case rest =>
                  as_aux_lemma =>
                  obtain ⟨rfl, hB⟩ := hcut
                  go_wp2_with fail
                  go_ret
                  exact ⟨rfl, beyondD B0.out hB.out⟩
    · as_aux_lemma =>
      have E : Hid (rightL L = false ∨ ¬ (q : Int) = (N : Int)) := by
        show _ ∨ _
        cases r : rightL L with
        | false => exact .inl rfl
        | true => exact .inr (fun e => rq ⟨r, by omega⟩)
      clear rq zc HW HSt HHo HV HGV HNil Hq Hgq Hk HbG Ic Inn Z q1 c1 c2 c3 c4 c5
      have HR' := hideD (fun W (hb : Below w3.heap.size w3 W) => HR.out W (beyondD B0.out hb))
      have HR6' := hideD (fun W (hb : Below w3.heap.size w3 W) => HR6.out W (beyondD B0.out hb))
      clear HR HR6
      generalize rightL L = r at *
      have c0x := c0.out
      rcases E.out with rfl | ne
      · as_aux_lemma =>
        clear E
        go_upto_region 5 with (fail)
        clear c0x
        go_cut [6] (fun s wx => s = .bool true ∧ Hid (Below w3.heap.size w3 wx))
        case first =>
          as_aux_lemma =>
            refine wp_region_noPanic ?_
            refine wp_region_held_drew (S := fun w' => Below w3.heap.size w3 w') (by kernel_rfl) ?_ (fun hHeld => ?_)
            · exact (Below.refl _ _).drew
            refine wpAnyH_take (i := 0) (oi := ⟨_, _, _, _, _, _⟩) (v := ?_) rfl (by kernel_rfl) (by kernel_rfl) (by kernel_rfl) (fun _ _ _ h => h) (Or.inl ⟨by rfl, ?_⟩) (by assumption) ?_
            rotate_left
            · intro w hSw; (try dsimp only at hSw); first | (go_simp; done) | (go_simp; with_reducible rfl)
            try simp only [Act.put, List.setIfInBounds_toArray, List.set_cons_zero, List.set_cons_succ]
            refine wpAnyH_take (i := 1) (oi := ⟨_, _, _, _, _, _⟩) (v := ?_) rfl (by kernel_rfl) (by kernel_rfl) (by kernel_rfl) (fun _ _ _ h => h) (Or.inl ⟨by rfl, ?_⟩) (by assumption) ?_
            rotate_left
            · intro w hSw; (try dsimp only at hSw); first | (go_simp; done) | (go_simp; with_reducible rfl)
            try simp only [Act.put, List.setIfInBounds_toArray, List.set_cons_zero, List.set_cons_succ]
            refine wpAnyH_take (i := 2) (oi := ⟨_, _, _, _, _, _⟩) (v := ?_) rfl (by kernel_rfl) (by kernel_rfl) (by kernel_rfl) (fun _ _ _ h => h) (Or.inl ⟨by rfl, ?_⟩) (by assumption) ?_
            rotate_left
            · intro w hSw; (try dsimp only at hSw); first | (go_simp; done) | (go_simp; with_reducible rfl)
            try simp only [Act.put, List.setIfInBounds_toArray, List.set_cons_zero, List.set_cons_succ]
            refine wpAnyH_take (i := 3) (oi := ⟨_, _, _, _, _, _⟩) (v := ?_) rfl (by kernel_rfl) (by kernel_rfl) (by kernel_rfl) (fun _ _ _ h => h) (Or.inl ⟨by rfl, ?_⟩) (by assumption) ?_
            rotate_left
            · intro w hSw; (try dsimp only at hSw); first | (go_simp; done) | (go_simp; with_reducible rfl)
            try simp only [Act.put, List.setIfInBounds_toArray, List.set_cons_zero, List.set_cons_succ]
            refine wpAnyH_take (i := 4) (oi := ⟨_, _, _, _, _, _⟩) (v := ?_) rfl (by kernel_rfl) (by kernel_rfl) (by kernel_rfl) (fun _ _ _ h => h) (Or.inl ⟨by rfl, ?_⟩) (by assumption) ?_
            rotate_left
            · intro w hSw; (try dsimp only at hSw); have x0 := kc _ _ hSw c0.out; first | (go_simp; done) | (go_simp; with_reducible rfl)
            try simp only [Act.put, List.setIfInBounds_toArray, List.set_cons_zero, List.set_cons_succ]
            refine wpAnyH_take (i := 6) (oi := ⟨_, _, _, _, _, _⟩) (v := ?_) rfl (by kernel_rfl) (by kernel_rfl) (by kernel_rfl) (fun _ _ _ h => h) (Or.inl ⟨by rfl, ?_⟩) (by assumption) ?_
            rotate_left
            · intro w hSw; (try dsimp only at hSw); first | (go_simp; done) | (go_simp; with_reducible rfl)
            try simp only [Act.put, List.setIfInBounds_toArray, List.set_cons_zero, List.set_cons_succ]
            refine wpAnyH_take (i := 7) (oi := ⟨_, _, _, _, _, _⟩) (v := ?_) rfl (by kernel_rfl) (by kernel_rfl) (by kernel_rfl) (fun _ _ _ h => h) (Or.inl ⟨by rfl, ?_⟩) (by assumption) ?_
            rotate_left
            · intro w hSw; (try dsimp only at hSw); have x0 := kc _ _ hSw c0.out; first | (go_simp; done) | (go_simp; with_reducible rfl)
            try simp only [Act.put, List.setIfInBounds_toArray, List.set_cons_zero, List.set_cons_succ]
            refine wpAnyH_ready (rs := [5]) (by kernel_rfl) (by simp) ?_
            refine AllReadyH.cons (o := ⟨_, _, _, _, _, _⟩) rfl (fun K hK => ?_) AllReadyH.nil
            go_simp
            go_at_call 24
            refine (HR'.out _ (by assumption)).mono ?_
            rintro e' w' ⟨rfl, hb⟩
            have hn := beyondD hHeld hb
            clear hb
            try go_wp2_with fail
            refine hK.out _ _ ?_ (fun hHeld => ?_)
            · exact hn
            clear hK K hn
            try simp only [Act.put, List.setIfInBounds_toArray, List.set_cons_zero, List.set_cons_succ]
            refine wpAnyH_ready (rs := [8]) (by kernel_rfl) (by simp) ?_
            refine AllReadyH.cons (o := ⟨_, _, _, _, _, _⟩) rfl (fun K hK => ?_) AllReadyH.nil
            go_simp
            go_at_call 25
            refine (HR6'.out _ (by assumption)).mono ?_
            rintro e' w' ⟨rfl, hb⟩
            have hn := beyondD hHeld hb
            clear hb
            try go_wp2_with fail
            refine hK.out _ _ ?_ (fun hHeld => ?_)
            · exact hn
            clear hK K hn
            try simp only [Act.put, List.setIfInBounds_toArray, List.set_cons_zero, List.set_cons_succ]
            refine wpAnyH_take (i := 9) (oi := ⟨_, _, _, _, _, _⟩) (v := ?_) rfl (by kernel_rfl) (by kernel_rfl) (by kernel_rfl) (fun _ _ _ h => h) (Or.inl ⟨by rfl, ?_⟩) (by assumption) ?_
            rotate_left
            · intro w hSw; (try dsimp only at hSw); first | (go_simp; done) | (go_simp; with_reducible rfl)
            try simp only [Act.put, List.setIfInBounds_toArray, List.set_cons_zero, List.set_cons_succ]
            refine wpAnyH_take (i := 10) (oi := ⟨_, _, _, _, _, _⟩) (v := ?_) rfl (by kernel_rfl) (by kernel_rfl) (by kernel_rfl) (fun _ _ _ h => h) (Or.inl ⟨by rfl, ?_⟩) (by assumption) ?_
            rotate_left
            · intro w hSw; (try dsimp only at hSw); first | (go_simp; done) | (go_simp; with_reducible rfl)
            try simp only [Act.put, List.setIfInBounds_toArray, List.set_cons_zero, List.set_cons_succ]
            refine wpAnyH_take (i := 11) (oi := ⟨_, _, _, _, _, _⟩) (v := ?_) rfl (by kernel_rfl) (by kernel_rfl) (by kernel_rfl) (fun _ _ _ h => h) (Or.inl ⟨by rfl, ?_⟩) (by assumption) ?_
            rotate_left
            · intro w hSw; (try dsimp only at hSw); first | (go_simp; done) | (go_simp; with_reducible rfl)
            try simp only [Act.put, List.setIfInBounds_toArray, List.set_cons_zero, List.set_cons_succ]
            refine wpAnyH_done (by kernel_rfl) ?_ _
            refine NoPanic.normal ?_
            go_wp2_with fail
            go_meet
            exact ⟨rfl, by assumption⟩
        case rest =>
          obtain ⟨rfl, hb⟩ := hcut
          go_wp2_with fail
          go_ret
          exact ⟨rfl, beyondD B0.out hb.out⟩
      · clear E
        have ne' : ((q : Int) != (N : Int)) = true := by simpa using ne
        cases r with
        | false =>
          as_aux_lemma =>
          clear ne ne'
          go_upto_region 5 with (fail)
          clear c0x
          go_cut [6] (fun s wx => s = .bool true ∧ Hid (Below w3.heap.size w3 wx))
          case first =>
            as_aux_lemma =>
              refine wp_region_noPanic ?_
              refine wp_region_held_drew (S := fun w' => Below w3.heap.size w3 w') (by kernel_rfl) ?_ (fun hHeld => ?_)
              · exact (Below.refl _ _).drew
              refine wpAnyH_take (i := 0) (oi := ⟨_, _, _, _, _, _⟩) (v := ?_) rfl (by kernel_rfl) (by kernel_rfl) (by kernel_rfl) (fun _ _ _ h => h) (Or.inl ⟨by rfl, ?_⟩) (by assumption) ?_
              rotate_left
              · intro w hSw; (try dsimp only at hSw); first | (go_simp; done) | (go_simp; with_reducible rfl)
              try simp only [Act.put, List.setIfInBounds_toArray, List.set_cons_zero, List.set_cons_succ]
              refine wpAnyH_take (i := 1) (oi := ⟨_, _, _, _, _, _⟩) (v := ?_) rfl (by kernel_rfl) (by kernel_rfl) (by kernel_rfl) (fun _ _ _ h => h) (Or.inl ⟨by rfl, ?_⟩) (by assumption) ?_
              rotate_left
              · intro w hSw; (try dsimp only at hSw); first | (go_simp; done) | (go_simp; with_reducible rfl)
              try simp only [Act.put, List.setIfInBounds_toArray, List.set_cons_zero, List.set_cons_succ]
              refine wpAnyH_take (i := 2) (oi := ⟨_, _, _, _, _, _⟩) (v := ?_) rfl (by kernel_rfl) (by kernel_rfl) (by kernel_rfl) (fun _ _ _ h => h) (Or.inl ⟨by rfl, ?_⟩) (by assumption) ?_
              rotate_left
              · intro w hSw; (try dsimp only at hSw); first | (go_simp; done) | (go_simp; with_reducible rfl)
              try simp only [Act.put, List.setIfInBounds_toArray, List.set_cons_zero, List.set_cons_succ]
              refine wpAnyH_take (i := 3) (oi := ⟨_, _, _, _, _, _⟩) (v := ?_) rfl (by kernel_rfl) (by kernel_rfl) (by kernel_rfl) (fun _ _ _ h => h) (Or.inl ⟨by rfl, ?_⟩) (by assumption) ?_
              rotate_left
              · intro w hSw; (try dsimp only at hSw); first | (go_simp; done) | (go_simp; with_reducible rfl)
              try simp only [Act.put, List.setIfInBounds_toArray, List.set_cons_zero, List.set_cons_succ]
              refine wpAnyH_take (i := 4) (oi := ⟨_, _, _, _, _, _⟩) (v := ?_) rfl (by kernel_rfl) (by kernel_rfl) (by kernel_rfl) (fun _ _ _ h => h) (Or.inl ⟨by rfl, ?_⟩) (by assumption) ?_
              rotate_left
              · intro w hSw; (try dsimp only at hSw); have x0 := kc _ _ hSw c0.out; first | (go_simp; done) | (go_simp; with_reducible rfl)
              try simp only [Act.put, List.setIfInBounds_toArray, List.set_cons_zero, List.set_cons_succ]
              refine wpAnyH_take (i := 6) (oi := ⟨_, _, _, _, _, _⟩) (v := ?_) rfl (by kernel_rfl) (by kernel_rfl) (by kernel_rfl) (fun _ _ _ h => h) (Or.inl ⟨by rfl, ?_⟩) (by assumption) ?_
              rotate_left
              · intro w hSw; (try dsimp only at hSw); first | (go_simp; done) | (go_simp; with_reducible rfl)
              try simp only [Act.put, List.setIfInBounds_toArray, List.set_cons_zero, List.set_cons_succ]
              refine wpAnyH_take (i := 7) (oi := ⟨_, _, _, _, _, _⟩) (v := ?_) rfl (by kernel_rfl) (by kernel_rfl) (by kernel_rfl) (fun _ _ _ h => h) (Or.inl ⟨by rfl, ?_⟩) (by assumption) ?_
              rotate_left
              · intro w hSw; (try dsimp only at hSw); have x0 := kc _ _ hSw c0.out; first | (go_simp; done) | (go_simp; with_reducible rfl)
              try simp only [Act.put, List.setIfInBounds_toArray, List.set_cons_zero, List.set_cons_succ]
              refine wpAnyH_ready (rs := [5]) (by kernel_rfl) (by simp) ?_
              refine AllReadyH.cons (o := ⟨_, _, _, _, _, _⟩) rfl (fun K hK => ?_) AllReadyH.nil
              go_simp
              go_at_call 24
              refine (HR'.out _ (by assumption)).mono ?_
              rintro e' w' ⟨rfl, hb⟩
              have hn := beyondD hHeld hb
              clear hb
              try go_wp2_with fail
              refine hK.out _ _ ?_ (fun hHeld => ?_)
              · exact hn
              clear hK K hn
              try simp only [Act.put, List.setIfInBounds_toArray, List.set_cons_zero, List.set_cons_succ]
              refine wpAnyH_ready (rs := [8]) (by kernel_rfl) (by simp) ?_
              refine AllReadyH.cons (o := ⟨_, _, _, _, _, _⟩) rfl (fun K hK => ?_) AllReadyH.nil
              go_simp
              go_at_call 25
              refine (HR6'.out _ (by assumption)).mono ?_
              rintro e' w' ⟨rfl, hb⟩
              have hn := beyondD hHeld hb
              clear hb
              try go_wp2_with fail
              refine hK.out _ _ ?_ (fun hHeld => ?_)
              · exact hn
              clear hK K hn
              try simp only [Act.put, List.setIfInBounds_toArray, List.set_cons_zero, List.set_cons_succ]
              refine wpAnyH_take (i := 9) (oi := ⟨_, _, _, _, _, _⟩) (v := ?_) rfl (by kernel_rfl) (by kernel_rfl) (by kernel_rfl) (fun _ _ _ h => h) (Or.inl ⟨by rfl, ?_⟩) (by assumption) ?_
              rotate_left
              · intro w hSw; (try dsimp only at hSw); first | (go_simp; done) | (go_simp; with_reducible rfl)
              try simp only [Act.put, List.setIfInBounds_toArray, List.set_cons_zero, List.set_cons_succ]
              refine wpAnyH_take (i := 10) (oi := ⟨_, _, _, _, _, _⟩) (v := ?_) rfl (by kernel_rfl) (by kernel_rfl) (by kernel_rfl) (fun _ _ _ h => h) (Or.inl ⟨by rfl, ?_⟩) (by assumption) ?_
              rotate_left
              · intro w hSw; (try dsimp only at hSw); first | (go_simp; done) | (go_simp; with_reducible rfl)
              try simp only [Act.put, List.setIfInBounds_toArray, List.set_cons_zero, List.set_cons_succ]
              refine wpAnyH_take (i := 11) (oi := ⟨_, _, _, _, _, _⟩) (v := ?_) rfl (by kernel_rfl) (by kernel_rfl) (by kernel_rfl) (fun _ _ _ h => h) (Or.inl ⟨by rfl, ?_⟩) (by assumption) ?_
              rotate_left
              · intro w hSw; (try dsimp only at hSw); first | (go_simp; done) | (go_simp; with_reducible rfl)
              try simp only [Act.put, List.setIfInBounds_toArray, List.set_cons_zero, List.set_cons_succ]
              refine wpAnyH_done (by kernel_rfl) ?_ _
              refine NoPanic.normal ?_
              go_wp2_with fail
              go_meet
              exact ⟨rfl, by assumption⟩
          case rest =>
            obtain ⟨rfl, hb⟩ := hcut
            go_wp2_with fail
            go_ret
            exact ⟨rfl, beyondD B0.out hb.out⟩
        | true =>
          as_aux_lemma =>
          go_upto_region 5 with (fail)
          clear c0x ne ne'
          go_cut [6] (fun s wx => s = .bool true ∧ Hid (Below w3.heap.size w3 wx))
          case first =>
            as_aux_lemma =>
              refine wp_region_noPanic ?_
              refine wp_region_held_drew (S := fun w' => Below w3.heap.size w3 w') (by kernel_rfl) ?_ (fun hHeld => ?_)
              · exact (Below.refl _ _).drew
              refine wpAnyH_take (i := 0) (oi := ⟨_, _, _, _, _, _⟩) (v := ?_) rfl (by kernel_rfl) (by kernel_rfl) (by kernel_rfl) (fun _ _ _ h => h) (Or.inl ⟨by rfl, ?_⟩) (by assumption) ?_
              rotate_left
              · intro w hSw; (try dsimp only at hSw); first | (go_simp; done) | (go_simp; with_reducible rfl)
              try simp only [Act.put, List.setIfInBounds_toArray, List.set_cons_zero, List.set_cons_succ]
              refine wpAnyH_take (i := 1) (oi := ⟨_, _, _, _, _, _⟩) (v := ?_) rfl (by kernel_rfl) (by kernel_rfl) (by kernel_rfl) (fun _ _ _ h => h) (Or.inl ⟨by rfl, ?_⟩) (by assumption) ?_
              rotate_left
              · intro w hSw; (try dsimp only at hSw); first | (go_simp; done) | (go_simp; with_reducible rfl)
              try simp only [Act.put, List.setIfInBounds_toArray, List.set_cons_zero, List.set_cons_succ]
              refine wpAnyH_take (i := 2) (oi := ⟨_, _, _, _, _, _⟩) (v := ?_) rfl (by kernel_rfl) (by kernel_rfl) (by kernel_rfl) (fun _ _ _ h => h) (Or.inl ⟨by rfl, ?_⟩) (by assumption) ?_
              rotate_left
              · intro w hSw; (try dsimp only at hSw); first | (go_simp; done) | (go_simp; with_reducible rfl)
              try simp only [Act.put, List.setIfInBounds_toArray, List.set_cons_zero, List.set_cons_succ]
              refine wpAnyH_take (i := 3) (oi := ⟨_, _, _, _, _, _⟩) (v := ?_) rfl (by kernel_rfl) (by kernel_rfl) (by kernel_rfl) (fun _ _ _ h => h) (Or.inl ⟨by rfl, ?_⟩) (by assumption) ?_
              rotate_left
              · intro w hSw; (try dsimp only at hSw); first | (go_simp; done) | (go_simp; with_reducible rfl)
              try simp only [Act.put, List.setIfInBounds_toArray, List.set_cons_zero, List.set_cons_succ]
              refine wpAnyH_take (i := 4) (oi := ⟨_, _, _, _, _, _⟩) (v := ?_) rfl (by kernel_rfl) (by kernel_rfl) (by kernel_rfl) (fun _ _ _ h => h) (Or.inl ⟨by rfl, ?_⟩) (by assumption) ?_
              rotate_left
              · intro w hSw; (try dsimp only at hSw); have x0 := kc _ _ hSw c0.out; first | (go_simp; done) | (go_simp; with_reducible rfl)
              try simp only [Act.put, List.setIfInBounds_toArray, List.set_cons_zero, List.set_cons_succ]
              refine wpAnyH_take (i := 6) (oi := ⟨_, _, _, _, _, _⟩) (v := ?_) rfl (by kernel_rfl) (by kernel_rfl) (by kernel_rfl) (fun _ _ _ h => h) (Or.inl ⟨by rfl, ?_⟩) (by assumption) ?_
              rotate_left
              · intro w hSw; (try dsimp only at hSw); first | (go_simp; done) | (go_simp; with_reducible rfl)
              try simp only [Act.put, List.setIfInBounds_toArray, List.set_cons_zero, List.set_cons_succ]
              refine wpAnyH_take (i := 7) (oi := ⟨_, _, _, _, _, _⟩) (v := ?_) rfl (by kernel_rfl) (by kernel_rfl) (by kernel_rfl) (fun _ _ _ h => h) (Or.inl ⟨by rfl, ?_⟩) (by assumption) ?_
              rotate_left
              · intro w hSw; (try dsimp only at hSw); have x0 := kc _ _ hSw c0.out; first | (go_simp; done) | (go_simp; with_reducible rfl)
              try simp only [Act.put, List.setIfInBounds_toArray, List.set_cons_zero, List.set_cons_succ]
              refine wpAnyH_ready (rs := [5]) (by kernel_rfl) (by simp) ?_
              refine AllReadyH.cons (o := ⟨_, _, _, _, _, _⟩) rfl (fun K hK => ?_) AllReadyH.nil
              go_simp
              go_at_call 24
              refine (HR'.out _ (by assumption)).mono ?_
              rintro e' w' ⟨rfl, hb⟩
              have hn := beyondD hHeld hb
              clear hb
              try go_wp2_with fail
              refine hK.out _ _ ?_ (fun hHeld => ?_)
              · exact hn
              clear hK K hn
              try simp only [Act.put, List.setIfInBounds_toArray, List.set_cons_zero, List.set_cons_succ]
              refine wpAnyH_ready (rs := [8]) (by kernel_rfl) (by simp) ?_
              refine AllReadyH.cons (o := ⟨_, _, _, _, _, _⟩) rfl (fun K hK => ?_) AllReadyH.nil
              go_simp
              go_at_call 25
              refine (HR6'.out _ (by assumption)).mono ?_
              rintro e' w' ⟨rfl, hb⟩
              have hn := beyondD hHeld hb
              clear hb
              try go_wp2_with fail
              refine hK.out _ _ ?_ (fun hHeld => ?_)
              · exact hn
              clear hK K hn
              try simp only [Act.put, List.setIfInBounds_toArray, List.set_cons_zero, List.set_cons_succ]
              refine wpAnyH_take (i := 9) (oi := ⟨_, _, _, _, _, _⟩) (v := ?_) rfl (by kernel_rfl) (by kernel_rfl) (by kernel_rfl) (fun _ _ _ h => h) (Or.inl ⟨by rfl, ?_⟩) (by assumption) ?_
              rotate_left
              · intro w hSw; (try dsimp only at hSw); first | (go_simp; done) | (go_simp; with_reducible rfl)
              try simp only [Act.put, List.setIfInBounds_toArray, List.set_cons_zero, List.set_cons_succ]
              refine wpAnyH_take (i := 10) (oi := ⟨_, _, _, _, _, _⟩) (v := ?_) rfl (by kernel_rfl) (by kernel_rfl) (by kernel_rfl) (fun _ _ _ h => h) (Or.inl ⟨by rfl, ?_⟩) (by assumption) ?_
              rotate_left
              · intro w hSw; (try dsimp only at hSw); first | (go_simp; done) | (go_simp; with_reducible rfl)
              try simp only [Act.put, List.setIfInBounds_toArray, List.set_cons_zero, List.set_cons_succ]
              refine wpAnyH_take (i := 11) (oi := ⟨_, _, _, _, _, _⟩) (v := ?_) rfl (by kernel_rfl) (by kernel_rfl) (by kernel_rfl) (fun _ _ _ h => h) (Or.inl ⟨by rfl, ?_⟩) (by assumption) ?_
              rotate_left
              · intro w hSw; (try dsimp only at hSw); first | (go_simp; done) | (go_simp; with_reducible rfl)
              try simp only [Act.put, List.setIfInBounds_toArray, List.set_cons_zero, List.set_cons_succ]
              refine wpAnyH_done (by kernel_rfl) ?_ _
              refine NoPanic.normal ?_
              go_wp2_with fail
              go_meet
              exact ⟨rfl, by assumption⟩
          case rest =>
            obtain ⟨rfl, hb⟩ := hcut
            go_wp2_with fail
            go_ret
            exact ⟨rfl, beyondD B0.out hb.out⟩
end Go.Proofs.YteifpplemohdcaaGreat
