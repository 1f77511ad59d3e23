/-
  The walk of TopWidened.
-/
import Derived.Test.YtohkbjkfpnhggaaTw0z
import Derived.Test.YtohkbjkfpnhggaaZn
import Derived.Deep.Slices
import Derived.Deep.Strs
import Derived.ProofKit
import Derived.OpenShut
namespace Go.Proofs.Ytohkbjkfpnhggaa
open Go.RowKit Go.Shelf Go.ChangeShapes Go.WideShapes Go.ChangeAt Go.Deep
set_option linter.unusedVariables false
set_option maxRecDepth 100000
def L0 : Lims := ⟨0, fun _ => 0, fun _ => 0, fun _ => 0⟩
theorem open_lims {H : Type} {enc : TypeId × Value → H} {P : Program} {w : World} {base : Nat} {spare : Nat → Bool} {held : Bool} {t e : TypeId} {f0 f1 f2 : Field} {fuel : Nat} {cs : List Value} {x : DataW H × List MemPlace}
    (ht : P.underlying t = some (.slice e)) (he : P.underlying e = some (.struct #[f0, f1, f2])) (ce : P.cellsOf e = 3) (o0 : f0.offset = 0) (o1 : f1.offset = 1) (o2 : f2.offset = 2) (c0 : P.cellsOf f0.type = 1) (c1 : P.cellsOf f1.type = 1) (c2 : P.cellsOf f2.type = 1)
    (u0 : P.underlying f0.type = some (.int .i64)) (u1 : P.underlying f1.type = some (.int .i64)) (u2 : P.underlying f2.type = some (.int .i32)) (h : DataW.trod enc P w base spare held fuel t cs = some x) :
    cs = [.slice none 0 0] ∨ ∃ (a : Addr) (len cap : Nat) (ds ss : List (DataW H)) (L : Lims), cs = [.slice (some a) len cap] ∧ L.q = len ∧ ds.length = len ∧ x.1 = .slice ds ss ∧
      ∀ k, k < len → w.cell? (a.add (k * 3)) = some (.int .i64 (L.i k)) ∧ w.cell? (a.add (k * 3 + 1)) = some (.int .i64 (L.j k)) ∧ w.cell? (a.add (k * 3 + 2)) = some (.int .i32 (L.b k)) ∧ (Lit.int .i32 (L.b k)).wf = true := by
  rcases open_slice ht h with ⟨h0, _⟩ | ⟨a, len, cap, m, n, D, Pl, rfl, hb, hl, hm, hmm, hx', hx⟩
  · exact .inl h0
  · right
    have hlm : len ≤ m := by rw [hmm]; split <;> omega
    have each : ∀ i, i < len → ∃ q : Int × Int × Int, w.cell? (a.add (i * 3)) = some (.int .i64 q.1) ∧ w.cell? (a.add (i * 3 + 1)) = some (.int .i64 q.2.1) ∧ w.cell? (a.add (i * 3 + 2)) = some (.int .i32 q.2.2) ∧ (Lit.int .i32 q.2.2).wf = true := by
      intro i hi
      obtain ⟨cs', h1, h2⟩ := hx i (by omega)
      rw [ce] at h1
      obtain ⟨_, hlen, hcell⟩ := World.cells?_some h1
      obtain ⟨y0, y1, y2, k, -, -, g0, g1, g2⟩ := trod_struct3 he h2
      match cs', hlen with
      | [v0, v1, v2], _ =>
        simp [o0, o1, o2, c0, c1, c2] at g0 g1 g2
        obtain ⟨z0, e0, _, _⟩ := DataW.trod_int u0 g0
        obtain ⟨z1, e1, _, _⟩ := DataW.trod_int u1 g1
        obtain ⟨z2, e2, _, wf⟩ := DataW.trod_int u2 g2
        have k0 := hcell 0 (by omega)
        have k1 := hcell 1 (by omega)
        have k2 := hcell 2 (by omega)
        rw [add_add] at k0 k1 k2
        simp at e0 e1 e2
        subst e0 e1 e2
        exact ⟨(z0, z1, z2), by simpa using k0, by simpa using k1, by simpa using k2, wf⟩
    obtain ⟨q, hq⟩ := choose_lt each
    exact ⟨a, len, cap, (List.range len).map D, _, ⟨len, fun i => (q i).1, fun i => (q i).2.1, fun i => (q i).2.2⟩, rfl, rfl, by simp, by rw [hx'], fun k hk => hq k hk⟩
set_option maxHeartbeats 2000000 in
theorem bad_any (q cap : Nat) (ad : Option Addr) (l : List Int) (w : World) (hl : l.length = q) (hv : IntsAt w (.slice ad q cap) l) (hq : q ≤ 9223372036854775807) :
    Calls Try.prog 10 #[.slice ad q cap] w fun e w' => e = .returned (.bool (!cstA l q)) ∧ Below w.heap.size w w' := by
  have HC : Hid (∀ k, k < q → ∃ cb off, ad = some ⟨cb, off, none⟩ ∧ w.cell? ⟨cb, off + k, none⟩ = some (.int .i64 (l.getD k 0))) := fun k hk => hv.at hl k hk
  clear hv hl
  have q1 : (q : Int) ≤ 9223372036854775807 := by omega
  go_enter Try.func10, Try.ntmps10
  go_wp2_with fail
  go_loopw [3] (fun s wr => ∃ (K : Nat), K ≤ q ∧ s = .int .i64 (K : Int) ∧ Hid (cstA l K = true) ∧ wr = w) (fun s _ => q - (intOf s).toNat)
  case atStart => exact ⟨0, by omega, rfl, rfl, rfl⟩
  case round =>
    obtain ⟨K, hK, rfl, hA, rfl⟩ := hrel
    by_cases ck : K < q
    · have k0 : (0 : Int) ≤ (K : Int) := by omega
      have k1 : (K : Int) < (q : Int) := by omega
      obtain ⟨cb, off, rfl, c1⟩ := HC.out K ck
      have st : Hid (cstA l (K + 1) = cstB (l.getD K 0)) := by show _ = _; simp [cstA, hA.out]
      generalize l.getD K 0 = x at *
      by_cases x1 : x < -1
      · have st3 : Hid (cstA l q = false) := cstA_false (k := K + 1) q (by omega) (by rw [st.out]; simp [cstB]; omega)
        clear st
        go_wp2_with fail
        go_ret
        exact ⟨by rw [st3.out]; rfl, Below.refl _ _⟩
      · by_cases x2 : 1048576 < x
        · have st3 : Hid (cstA l q = false) := cstA_false (k := K + 1) q (by omega) (by rw [st.out]; simp [cstB]; omega)
          clear st
          go_wp2_with fail
          go_ret
          exact ⟨by rw [st3.out]; rfl, Below.refl _ _⟩
        · have st3 : Hid (cstA l (K + 1) = true) := by show _ = _; rw [st.out]; simp [cstB]; omega
          clear st
          go_wp2_with fail
          go_roundw
          case rel => exact ⟨K + 1, by omega, by go_num, st3, by trivial⟩
          case measure => simp [intOf]; omega
    · have eK : K = q := by omega
      subst eK
      go_wp2_with fail
      go_ret
      exact ⟨by rw [hA.out]; rfl, Below.refl _ _⟩
/-- Least of a zone that is not empty: its least numbers, which are in it and in what includes it. -/
theorem least_say {n m : Nat} {c : Row} (hn : n ≤ 8) (hm : m = (n + 1) * (n + 1)) (zc : ZC n m c) (h0 : ¬ c 0 < 1) : ∃ G : Rats, G.q = n ∧ RatI G ∧ inB n m c G = true ∧ ∀ b w, ZoneAt w b n c → Calls Try.prog 5 #[.pointer (some ⟨b, 0, none⟩)] w fun e w' => (∃ ad cap', e = .returned (.tuple #[.slice ad n cap', .int .i64 0]) ∧ (ad = none → n = 0 ∧ cap' = 0) ∧ RatV w' ad G) ∧ Below w.heap.size w w' := by
  obtain ⟨p, hp⟩ := full_zc hn hm zc h0
  have ub := units_bd hn hm hp
  refine ⟨gridL n (unitsF n c) ((n : Int) + 1), rfl, fun k hk => ?_, least_inB hn hm hp (zc_right hm zc), fun b w hz => ?_⟩
  · obtain ⟨_, _, _, _, _, q⟩ := newT_small (g := (n : Int) + 1) (ub k hk).1 (ub k hk).2 (by omega) (by omega)
    exact q
  · refine (leastP_any b n m c w hn hm hz (zc_right hm zc) h0 (fun k hk => (newT_small (ub k hk).1 (ub k hk).2 (by omega) (by omega)).1)).mono fun e w' ⟨h, hb⟩ => ⟨?_, hb⟩
    obtain ⟨ad, cap', h1, h2, h3, -⟩ := h
    exact ⟨ad, cap', h1, h2, h3⟩
set_option maxHeartbeats 4000000 in
theorem topWidened.walk (n : Int) (wn : (Lit.int .i64 n).wf = true) (v : Value) (L : Lims) (u : Value) (ms : List Int) (w : World) (hL : LimS w v L) (wf : ∀ k, k < L.q → -2147483648 ≤ L.b k ∧ L.b k ≤ 2147483647) (hby : L.q * 24 ≤ 140737488355328) (hnl : ∀ {c}, v = .slice none 0 c → c = 0)
    (hM : IntsAt w u ms) (wm : ∀ z ∈ ms, (Lit.int .i64 z).wf = true) (hbm : ms.length * 8 ≤ 140737488355328) (hnm : ∀ {c}, u = .slice none 0 c → c = 0) :
    Calls Try.prog 3 #[.int .i64 n, v, u] w fun e w' => e = .returned (.bool true) ∧ Below w.heap.size w w' := by
  have H1 := hideD (limZ_any n v L w hL wf (by omega))
  obtain ⟨am, cm, rfl⟩ : ∃ am cm, u = .slice am ms.length cm := by
    rcases hM with ⟨a, c, rfl, rfl⟩ | ⟨b, off, cap, rfl, -⟩
    · exact ⟨a, c, rfl⟩
    · exact ⟨_, cap, rfl⟩
  have HM := hideD hM
  obtain ⟨q, hq⟩ : ∃ q, ms.length = q := ⟨_, rfl⟩
  rw [hq] at HM hbm
  rw [hq]
  have Hq := hideD hq
  have Q1 : Hid (q ≤ 9223372036854775807) := by show _ ≤ _; omega
  clear hL wf hby hnl hM wm hbm hnm wn hq
  go_enter Try.func3, Try.ntmps3
  go_wp2_with fail
  refine H1.out.mono ?_
  rintro e w1 ⟨ho, hb⟩
  have B0 := hideD hb
  clear hb H1
  rcases ho with ⟨x, hx, rfl⟩ | ⟨N, b, c, rfl, N8, rfl, hz, zc⟩
  · clear HM Hq Q1
    go_wp2_with fail
    go_ret
    exact ⟨rfl, B0.out⟩
  · have Z := hideD hz
    obtain ⟨m, hm⟩ : ∃ m, m = (N + 1) * (N + 1) := ⟨_, rfl⟩
    rw [← hm] at zc
    have HM2 := hideD hm
    have ZC0 := hideD zc
    clear hz hm zc
    have HE := hideD (fun W (hb : Below w1.heap.size w1 W) => emptyP_any b N c W N8 (Z.out.past hb))
    by_cases h0 : c 0 < 1
    · have HL := hideD (leastP_empty b N c w1 N8 Z.out h0)
      rw [decide_eq_true h0] at HE
      clear HM Hq Q1 HM2 ZC0 h0
      go_wp2_with fail
      refine HL.out.mono ?_
      rintro e w2 ⟨rfl, hb⟩
      have H2 := hideD (HE.out w2 hb)
      have B0 := hideD (beyondD B0.out hb)
      clear HL HE hb
      go_wp2_with fail
      refine H2.out.mono ?_
      rintro e w3 ⟨rfl, hb⟩
      have B0 := hideD (beyondD B0.out hb)
      clear H2 hb
      go_wp2_with fail
      go_ret
      exact ⟨rfl, B0.out⟩
    · obtain ⟨G, Gq, GI, Gin, GL⟩ := least_say N8 HM2.out ZC0.out h0
      rw [decide_eq_false h0] at HE
      have HL := hideD (GL b w1 Z.out)
      have HG := hideD Gq
      have HGI := hideD GI
      have HGin := hideD Gin
      have H00 := hideD h0
      clear Gq GI Gin GL h0
      go_wp2_with fail
      refine HL.out.mono ?_
      rintro e w2 ⟨⟨ad, cp, rfl, hnil, hV⟩, hb⟩
      have H2 := hideD (HE.out w2 hb)
      have V := hideD hV
      have NI := hideD hnil
      have Z := hideD (Z.out.past hb)
      have B0 := hideD (beyondD B0.out hb)
      clear HL HE hb hV hnil
      go_wp2_with fail
      refine H2.out.mono ?_
      rintro e w3 ⟨rfl, hb⟩
      have V := hideD (V.out.later hb)
      have Z := hideD (Z.out.past hb)
      have B0 := hideD (beyondD B0.out hb)
      have HI := hideD (inP_any b N m N cp ad c G w3 N8 HM2.out Z.out HG.out (by omega) NI.out V.out HGI.out)
      rw [HGin.out] at HI
      clear H2 hb
      go_wp2_with fail
      refine HI.out.mono ?_
      rintro e w4 ⟨rfl, hb⟩
      have V := hideD (V.out.later hb)
      have Z := hideD (Z.out.past hb)
      have B0 := hideD (beyondD B0.out hb)
      have M4 := hideD (HM.out.past B0.out)
      obtain ⟨c1, zc1, INC, TU⟩ := up_tells N8 HM2.out ZC0.out
      have INC := hideD INC
      have ZC1 := hideD zc1
      have TU := hideD (fun w b h => TU c (.inl rfl) w b h)
      clear HI hb zc1
      by_cases mz : mayE N ms = 0
      · obtain ⟨ca, zca, ica, -, -, TL⟩ := lu_row N8 HM2.out ZC0.out mz mz
        have TX := hideD (max_tells _ _ _ _ _ (TL w4 b q cm q cm am am Z.out Hq.out M4.out Hq.out M4.out))
        unfold OTells at TX
        have ICA := hideD ica
        have ZCA := hideD zca
        clear TL ica zca mz HM M4 Hq Q1
        go_wp2_with fail
        refine TX.out.mono ?_
        rintro e w5 ⟨⟨BA, ba, -, rfl, hza⟩, hb⟩
        have V := hideD (V.out.later hb)
        have Z := hideD (Z.out.past hb)
        have B0 := hideD (beyondD B0.out hb)
        have A := hideD hza
        have TU2 := hideD (TU.out w5 b Z.out)
        unfold OTells at TU2
        clear TX TU hb hza
        go_wp2_with fail
        refine TU2.out.mono ?_
        rintro e w6 ⟨⟨BU, bu, -, rfl, hzu⟩, hb⟩
        have V := hideD (V.out.later hb)
        have Z := hideD (Z.out.past hb)
        have A := hideD (A.out.past hb)
        have B0 := hideD (beyondD B0.out hb)
        have U := hideD hzu
        have I1 := hideD (fun W (hb : Below w6.heap.size w6 W) => inP_any ba N m N cp ad ca G W N8 HM2.out (A.out.past hb) HG.out (by omega) NI.out (V.out.later hb) HGI.out)
        have I2 := hideD (fun W (hb : Below w6.heap.size w6 W) => inP_any bu N m N cp ad c1 G W N8 HM2.out (U.out.past hb) HG.out (by omega) NI.out (V.out.later hb) HGI.out)
        have I3 := hideD (fun W (hb : Below w6.heap.size w6 W) => inc_any bu b N m c1 c W (U.out.past hb) (Z.out.past hb) N8 HM2.out)
        have I4 := hideD (fun W (hb : Below w6.heap.size w6 W) => inc_any ba b N m ca c W (A.out.past hb) (Z.out.past hb) N8 HM2.out)
        have hc0 : ¬ c 0 < 1 := by have h := H00.out; omega
        rw [inB_mono N8 HM2.out ZC0.out ZCA.out hc0 ICA.out HGin.out] at I1
        rw [inB_mono N8 HM2.out ZC0.out ZC1.out hc0 INC.out HGin.out] at I2
        rw [INC.out] at I3
        rw [ICA.out] at I4
        have ha0 : ¬ ca 0 < 1 := by
          rcases incB_iff.1 ICA.out with h | h
          · exact absurd h hc0
          · have := h 0 (by rw [HM2.out]; exact Nat.mul_pos (by omega) (by omega))
            omega
        obtain ⟨G2, Gq2, GI2, Gin2, GL2⟩ := least_say N8 HM2.out ZCA.out ha0
        have HG2 := hideD Gq2
        have HGI2 := hideD GI2
        have HGin2 := hideD Gin2
        have HL2 := hideD (fun W (hb : Below w6.heap.size w6 W) => GL2 ba W (A.out.past hb))
        clear TU2 hb hzu ha0 hc0 Gq2 GI2 Gin2 GL2 V Z U NI HG HGI HGin INC ICA ZC0 ZC1
        go_wp2_with fail
        refine (I1.out w6 (Below.refl _ _)).mono ?_
        rintro e w7 ⟨rfl, hb⟩
        have C0 := hideD hb
        clear hb I1
        go_wp2_with fail
        refine (I2.out w7 C0.out).mono ?_
        rintro e w8 ⟨rfl, hb⟩
        have C0 := hideD (beyondD C0.out hb)
        clear hb I2
        go_wp2_with fail
        refine (I3.out w8 C0.out).mono ?_
        rintro e w9 ⟨rfl, hb⟩
        have C0 := hideD (beyondD C0.out hb)
        clear hb I3
        go_wp2_with fail
        refine (I4.out w9 C0.out).mono ?_
        rintro e wa ⟨rfl, hb⟩
        have C0 := hideD (beyondD C0.out hb)
        have HL3 := hideD (HL2.out wa C0.out)
        clear hb I4 HL2
        go_wp2_with fail
        refine HL3.out.mono ?_
        rintro e wb ⟨⟨ad2, cp2, rfl, hnil2, hV2⟩, hb⟩
        have C0 := hideD (beyondD C0.out hb)
        have I5 := hideD (inP_any ba N m N cp2 ad2 ca G2 wb N8 HM2.out (A.out.past C0.out) HG2.out (by omega) hnil2 hV2 HGI2.out)
        rw [HGin2.out] at I5
        clear hb HL3 hnil2 hV2
        go_wp2_with fail
        refine I5.out.mono ?_
        rintro e wd ⟨rfl, hb⟩
        have C0 := hideD (beyondD C0.out hb)
        clear hb I5
        go_wp2_with fail
        go_ret
        exact ⟨rfl, beyondD B0.out C0.out⟩
      · have TX := hideD (max_err _ _ _ _ (lu_err1 (u := .slice am q cm) Z.out Hq.out M4.out Q1.out mz))
        have HB := hideD (fun W (hb : Below w4.heap.size w4 W) => bad_any q cm am ms W Hq.out (M4.out.past hb) Q1.out)
        have E1 : Hid (¬ q = N ∨ cstA ms q = false) := by
          show _ ∨ _
          by_cases e : q = N
          · right
            cases h : cstA ms q with
            | false => rfl
            | true => exact absurd (show mayE N ms = 0 by unfold mayE; rw [Hq.out, if_pos e, if_pos h]) mz
          · exact .inl e
        have nz : (mayE N ms != 0) = true := by simpa using mz
        generalize mayE N ms = me at *
        clear mz HM M4 Hq Q1 V HGin HGI HG NI
        go_wp2_with fail
        refine TX.out.mono ?_
        rintro e w5 ⟨rfl, rfl⟩
        have TU2 := hideD (TU.out w5 b Z.out)
        unfold OTells at TU2
        clear TX TU
        go_wp2_with fail
        refine TU2.out.mono ?_
        rintro e w6 ⟨⟨BU, bu, -, rfl, -⟩, hb⟩
        have B0 := hideD (beyondD B0.out hb)
        have HB2 := hideD (HB.out w6 hb)
        clear TU2 hb HB
        by_cases e : q = N
        · have hf : cstA ms q = false := by
            rcases E1.out with h | h
            · exact absurd e h
            · exact h
          rw [hf] at HB2
          clear E1 hf
          subst e
          go_wp2_with fail
          refine HB2.out.mono ?_
          rintro e w7 ⟨rfl, hb⟩
          have B0 := hideD (beyondD B0.out hb)
          clear HB2 hb
          go_wp2_with fail
          go_ret
          exact ⟨rfl, B0.out⟩
        · have e' : ((q : Int) != (N : Int)) = true := by simp; omega
          clear E1 HB2
          go_wp2_with fail
          go_ret
          exact ⟨rfl, B0.out⟩
end Go.Proofs.Ytohkbjkfpnhggaa
