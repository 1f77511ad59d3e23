/-
  The walk of the statement OpsPoints.
-/
import Derived.Test.YtfffcmelkdmjaaaDoorZp
import Derived.Test.YtfffcmelkdmjaaaDoorOr1z
import Derived.Test.YtfffcmelkdmjaaaDoorOr2z
import Derived.Test.YtfffcmelkdmjaaaDoorOr3z
import Derived.Test.YtfffcmelkdmjaaaDoorOr4z
import Derived.Test.YtfffcmelkdmjaaaDoorZf
import Derived.OpenShut
namespace Go.Proofs.YtfffcmelkdmjaaaDoor
open Go.RowKit
set_option linter.unusedVariables false
set_option maxRecDepth 100000
theorem u64_nnP (x : Int) : 0 ≤ IntKind.u64.wrap x := by rw [IntKind.wrap_u64]; omega
/-- What is left of a number, as a number from 0 to below another one. -/
theorem rem_atP (x : Int) (m : Nat) (hm : 0 < m) (h8 : m ≤ 2000000) : ∃ k : Nat, k < m ∧ (IntKind.u64.wrap x).tmod (m : Int) = (k : Int) := by
  have h := u64_nnP x
  generalize IntKind.u64.wrap x = y at *
  obtain ⟨z, rfl⟩ := Int.eq_ofNat_of_zero_le h
  refine ⟨z % m, Nat.mod_lt _ hm, ?_⟩
  rw [Int.tmod_eq_emod_of_nonneg (by omega), Int.natCast_emod]
theorem mem16_bd {l : List Int} (h : ∀ z ∈ l, (Lit.int .u16 z).wf = true) (j : Nat) : 0 ≤ l.getD j 0 ∧ l.getD j 0 ≤ 65535 := by
  by_cases hj : j < l.length
  · have e : l.getD j 0 = l[j] := by simp [List.getD, hj]
    rw [e]
    exact bounds_u16 (h _ (List.getElem_mem hj))
  · have e : l.getD j 0 = 0 := by simp [List.getD, hj]
    rw [e]; omega
theorem getD_bd {l : List Int} {B : Int} (hB : 0 ≤ B) (h : ∀ x ∈ l, 0 ≤ x ∧ x ≤ B) (j : Nat) : 0 ≤ l.getD j 0 ∧ l.getD j 0 ≤ B := ptV_bd hB h (j + 1)
/-- What later makes of a valuation. -/
theorem laterC {n cap : Nat} {d : Int} {ad : Option Addr} {l : List Int} {w : World} (hn : n ≤ 8) (hv : Vec w ad cap n l) (hb : ∀ x ∈ l, 0 ≤ x ∧ x ≤ 65535) (d0 : 0 ≤ d) (d1 : d ≤ 65535) :
    Calls Tryd.prog 44 #[.slice ad n cap, .int .i64 d] w fun e w' => (∃ al cl, e = .returned (.slice al n cl) ∧ Hid (Vec w' al cl n (addL l d n))) ∧ Below w.heap.size w w' := by
  have gb := getD_bd (by omega) hb
  refine (later_any n cap d ad l w hn hv.len hv.ints (fun j => by have := gb j; omega) d0 d1).mono fun e w' ⟨⟨v, he, ho⟩, hb'⟩ => ⟨?_, hb'⟩
  obtain ⟨al, cl, e1, e2⟩ := ho.out.ints
  rw [addL_len] at e1
  subst e1
  exact ⟨al, cl, he, e2, addL_len _ _ _, fun x hx => by have := addL_bd gb d0 n x hx; omega⟩
theorem valuesC {n q cap : Nat} {ad : Option Addr} {l : List Int} {w : World} (hn : n ≤ 8) (hl : l.length = q) (hv : U16At w (.slice ad q cap) l) (hb : ∀ j, 0 ≤ l.getD j 0 ∧ l.getD j 0 ≤ 65535) :
    Calls Tryd.prog 42 #[.slice ad q cap, .int .i64 n] w fun e w' => (∃ al cl, e = .returned (.slice al n cl) ∧ Hid (Vec w' al cl n (valL l n))) ∧ Below w.heap.size w w' := by
  refine (values_any n q cap ad l w hn hl hv hb).mono fun e w' ⟨⟨v, he, ho⟩, hb'⟩ => ⟨?_, hb'⟩
  obtain ⟨al, cl, e1, e2⟩ := ho.out.ints
  rw [valL_len] at e1
  subst e1
  exact ⟨al, cl, he, e2, valL_len _ _, fun x hx => by have := valL_bd hb n x hx; omega⟩
set_option maxHeartbeats 16000000 in
theorem opsPoints.walk (n : Int) (hn : (Lit.int .i64 n).wf = true) (v : Value) (l : List Int) (v0 : Value) (l0 : List Int) (pc pn pd : Int) (v4 : Value) (L : Guas) (w : World) (ht : Pow w) (hS : SliceAt w v l) (wf : ∀ z ∈ l, (Lit.int .i32 z).wf = true) (hby : l.length * 4 ≤ 140737488355328) (hnil : ∀ {c}, v = .slice none 0 c → c = 0)
    (hi0 : U16At w v0 l0) (wf0 : ∀ z ∈ l0, (Lit.int .u16 z).wf = true) (by0 : l0.length ≤ 9223372036854775807) (wc : (Lit.int .i64 pc).wf = true) (wn : (Lit.int .i64 pn).wf = true) (wd : (Lit.int .u16 pd).wf = true) (hG : GuaS w v4 L) (hk : ∀ k, k < L.q → 0 ≤ L.k k ∧ L.k k < 256) (hq : L.q * 32 ≤ 140737488355328) :
    Calls Tryd.prog 7 #[.int .i64 n, v, .agg #[v0, .int .i64 pc, .int .i64 pn, .int .u16 pd, v4]] w fun e w' => e = .returned (.bool true) ∧ Below w.heap.size w w' := by
  obtain ⟨k1, o1, s1, -, z1, N1⟩ := two_of n v l w hS (wf_cells wf) (by omega)
  obtain ⟨d0, p0, rfl⟩ := hi0.form
  obtain ⟨d4, p4, rfl, hG4⟩ := hG
  have bd := bounds_u16 wd
  have M0 := hideD (mem16_bd wf0)
  have U0 : Hid (∀ w', Below w.heap.size w w' → U16At w' (.slice d0 l0.length p0) l0) := fun w' hb => hi0.past hb
  have G0 : Hid (∀ w', Below w.heap.size w w' → GuaV w' d4 L) := fun w' hb => hG4.past hb
  have HK := hideD hk
  have HQ := hideD hq
  have B0 := hideD (below_one w (.cells #[.slice d0 l0.length p0, .int .i64 pc, .int .i64 pn, .int .u16 pd, .slice d4 L.q p4] 63))
  have HL := hideD (olive_any (w.alloc (.cells #[.slice d0 l0.length p0, .int .i64 pc, .int .i64 pn, .int .u16 pd, .slice d4 L.q p4] 63)) (pow_later ht B0.out))
  have S1 := hideD s1
  have X0 : Hid ((w.alloc (.cells #[.slice d0 l0.length p0, .int .i64 pc, .int .i64 pn, .int .u16 pd, .slice d4 L.q p4] 63)).cell? ⟨w.heap.size, 0, none⟩ = some (.slice d0 l0.length p0)) := by show _ = _; simp [go_sem]
  have X1 : Hid ((w.alloc (.cells #[.slice d0 l0.length p0, .int .i64 pc, .int .i64 pn, .int .u16 pd, .slice d4 L.q p4] 63)).cell? ⟨w.heap.size, 1, none⟩ = some (.int .i64 pc)) := by show _ = _; simp [go_sem]
  have X2 : Hid ((w.alloc (.cells #[.slice d0 l0.length p0, .int .i64 pc, .int .i64 pn, .int .u16 pd, .slice d4 L.q p4] 63)).cell? ⟨w.heap.size, 2, none⟩ = some (.int .i64 pn)) := by show _ = _; simp [go_sem]
  have X3 : Hid ((w.alloc (.cells #[.slice d0 l0.length p0, .int .i64 pc, .int .i64 pn, .int .u16 pd, .slice d4 L.q p4] 63)).cell? ⟨w.heap.size, 3, none⟩ = some (.int .u16 pd)) := by show _ = _; simp [go_sem]
  have X4 : Hid ((w.alloc (.cells #[.slice d0 l0.length p0, .int .i64 pc, .int .i64 pn, .int .u16 pd, .slice d4 L.q p4] 63)).cell? ⟨w.heap.size, 4, none⟩ = some (.slice d4 L.q p4)) := by show _ = _; simp [go_sem]
  clear s1 hS wf hnil hby ht hn hi0 wf0 wc wn wd hG4 hk hq
  generalize hq0 : l0.length = q0 at *
  have Q0 := hideD hq0
  generalize hq4 : L.q = q4 at *
  have Q4 := hideD hq4
  clear hq0 hq4
  go_enter Tryd.func7, Tryd.ntmps7
  go_wp2_with fail
  generalize w.alloc (.cells #[.slice d0 q0 p0, .int .i64 pc, .int .i64 pn, .int .u16 pd, .slice d4 q4 p4] 63) = w0 at *
  refine HL.out.mono ?_
  rintro e w1 ⟨rfl, hb1⟩
  have B1 := hideD (beyondD B0.out hb1)
  have S11 := hideD (S1.out _ B1.out)
  have x0 := hideD (kc _ _ hb1 X0.out)
  have x1 := hideD (kc _ _ hb1 X1.out)
  have x2 := hideD (kc _ _ hb1 X2.out)
  have x3 := hideD (kc _ _ hb1 X3.out)
  have x4 := hideD (kc _ _ hb1 X4.out)
  clear HL hb1 S1 X0 X1 X2 X3 X4 B0
  go_wp2_with fail
  refine S11.out.mono ?_
  rintro e w2 ⟨⟨p, rfl, hp⟩, hb2⟩
  have B2 := hideD (beyondD B1.out hb2.out)
  have y0 := kc _ _ hb2.out x0.out
  have y1 := hideD (kc _ _ hb2.out x1.out)
  have y2 := hideD (kc _ _ hb2.out x2.out)
  have y3 := hideD (kc _ _ hb2.out x3.out)
  have y4 := hideD (kc _ _ hb2.out x4.out)
  clear S11 hb2 B1 x0 x1 x2 x3 x4
  cases o1 with
  | none =>
    obtain rfl := hp.out
    clear hp z1 N1
    go_wp2_with fail
    go_ret
    exact ⟨rfl, B2.out⟩
  | some u =>
    obtain ⟨N, c⟩ := u
    obtain ⟨hN, c32, b, rfl, hz⟩ := hp.out
    have zc := z1 N c rfl
    obtain rfl := N1 N c rfl
    have Z2 := hideD hz
    clear hp z1 N1 hz
    by_cases n1 : (N : Int) < 1
    · clear zc U0 G0 HK M0
      go_wp2_with fail
      go_ret
      exact ⟨rfl, B2.out⟩
    · obtain ⟨m, hm⟩ : ∃ m, m = (N + 1) * (N + 1) := ⟨_, rfl⟩
      rw [← hm] at zc
      have n1' : 1 ≤ N := by omega
      obtain ⟨c1, zc1, TU, PU⟩ := up_say hN hm zc
      obtain ⟨c2, zc2, TD, PD⟩ := down_say hN hm zc
      have VA := hideD (valuesC hN Q0.out (U0.out w2 B2.out) M0.out)
      have TU2 := hideD TU
      have TD2 := hideD TD
      unfold Tells at TU2 TD2
      have PU2 := hideD PU
      have PD2 := hideD PD
      have ZC0 := hideD zc
      have ZC1 := hideD zc1
      have ZC2 := hideD zc2
      have HM := hideD hm
      have L16 := hideD (valL_bd M0.out N)
      clear TU TD PU PD zc zc1 zc2 hm U0 M0
      go_wp2_with fail
      refine VA.out.mono ?_
      rintro e w3 ⟨⟨av, cv, rfl, hv3⟩, hb3⟩
      generalize hl1 : valL l0 N = l1 at *
      have B3 := hideD (beyondD B2.out hb3)
      have Z3 := hideD (Z2.out.past hb3)
      have u1 := hideD (kc _ _ hb3 y1.out)
      have u2 := hideD (kc _ _ hb3 y2.out)
      have u3 := hideD (kc _ _ hb3 y3.out)
      have u4 := hideD (kc _ _ hb3 y4.out)
      have TU3 := hideD (TU2.out w3 b Z3.out)
      clear VA hb3 B2 Z2 y0 y1 y2 y3 y4 hl1 TU2
      go_wp2_with fail
      refine TU3.out.mono ?_
      rintro e w4 ⟨⟨BB, b1, -, rfl, hz1⟩, hb4⟩
      have B4 := hideD (beyondD B3.out hb4)
      have Z4 := hideD (Z3.out.past hb4)
      have U4 := hideD hz1
      have V4 : Hid (Vec w4 av cv N l1) := hv3.out.past hb4
      have t1 := hideD (kc _ _ hb4 u1.out)
      have t2 := hideD (kc _ _ hb4 u2.out)
      have t3 := hideD (kc _ _ hb4 u3.out)
      have t4 := hideD (kc _ _ hb4 u4.out)
      have TD4 := hideD (TD2.out w4 b Z4.out)
      clear TU3 hb4 B3 Z3 hv3 hz1 u1 u2 u3 u4 TD2
      go_wp2_with fail
      refine TD4.out.mono ?_
      rintro e w5 ⟨⟨BC, b2, -, rfl, hz2⟩, hb5⟩
      have B5 := hideD (beyondD B4.out hb5)
      have Z5 := hideD (Z4.out.past hb5)
      have U5 := hideD (U4.out.past hb5)
      have D5 := hideD hz2
      have V5 : Hid (Vec w5 av cv N l1) := V4.out.past hb5
      have s1 := hideD (kc _ _ hb5 t1.out)
      have s2 := hideD (kc _ _ hb5 t2.out)
      have s3 := kc _ _ hb5 t3.out
      have s4 := hideD (kc _ _ hb5 t4.out)
      clear TD4 hb5 B4 Z4 U4 V4 hz2 t1 t2 t3 t4
      have dw : IntKind.i64.wrap pd = pd := by rw [IntKind.wrap_i64]; omega
      have dw2 : wrap64 pd = pd := by unfold wrap64; omega
      go_upto_region 10 with (fail)
      clear dw dw2 s3
      go_cut [97] (fun s wx => s = .bool false ∧ Hid (Below w5.heap.size w5 wx))
      case first =>
        as_aux_lemma =>
          have INz : Hid (∀ w', Below w5.heap.size w5 w' → Calls Tryd.prog 43 #[.pointer (some ⟨b, 0, none⟩), .slice av N cv] w' fun e w'' => e = .returned (.bool (inV N m c (ptV l1))) ∧ Below w'.heap.size w' w'') := fun w' h => inC hN n1' HM.out ZC0.out (Z5.out.past h) (V5.out.past h)
          have INu : Hid (∀ w', Below w5.heap.size w5 w' → Calls Tryd.prog 43 #[.pointer (some ⟨b1, 0, none⟩), .slice av N cv] w' fun e w'' => e = .returned (.bool (inV N m c1 (ptV l1))) ∧ Below w'.heap.size w' w'') := fun w' h => inC hN n1' HM.out ZC1.out (U5.out.past h) (V5.out.past h)
          have INd : Hid (∀ w', Below w5.heap.size w5 w' → Calls Tryd.prog 43 #[.pointer (some ⟨b2, 0, none⟩), .slice av N cv] w' fun e w'' => e = .returned (.bool (inV N m c2 (ptV l1))) ∧ Below w'.heap.size w' w'') := fun w' h => inC hN n1' HM.out ZC2.out (D5.out.past h) (V5.out.past h)
          have INzD : Hid (∀ w' al cl, Below w5.heap.size w5 w' → Vec w' al cl N (addL l1 pd N) → Calls Tryd.prog 43 #[.pointer (some ⟨b, 0, none⟩), .slice al N cl] w' fun e w'' => e = .returned (.bool (inV N m c (ptV (addL l1 pd N)))) ∧ Below w'.heap.size w' w'') := fun w' al cl h hv => inC hN n1' HM.out ZC0.out (Z5.out.past h) hv
          have INuD : Hid (∀ w' al cl, Below w5.heap.size w5 w' → Vec w' al cl N (addL l1 pd N) → Calls Tryd.prog 43 #[.pointer (some ⟨b1, 0, none⟩), .slice al N cl] w' fun e w'' => e = .returned (.bool (inV N m c1 (ptV (addL l1 pd N)))) ∧ Below w'.heap.size w' w'') := fun w' al cl h hv => inC hN n1' HM.out ZC1.out (U5.out.past h) hv
          have LAT : Hid (∀ w', Below w5.heap.size w5 w' → Calls Tryd.prog 44 #[.slice av N cv, .int .i64 pd] w' fun e w'' => (∃ al cl, e = .returned (.slice al N cl) ∧ Hid (Vec w'' al cl N (addL l1 pd N))) ∧ Below w'.heap.size w' w'') := fun w' h => laterC hN (V5.out.past h) L16.out bd.1 bd.2
          have PV := V5.out.pt
          have eD : ∀ cc, inV N m cc (ptV (addL l1 pd N)) = inV N m cc (VD (ptV l1) pd) := fun cc => inV_congr HM.out fun i hi => later_V i hi
          have e0 : ∀ cc, inV N m cc (VD (ptV l1) 0) = inV N m cc (ptV l1) := fun cc => inV_congr HM.out fun i hi => VD_zero PV i
          have f1 : inV N m c (ptV l1) = true → inV N m c1 (ptV (addL l1 pd N)) = true := fun h => by rw [eD]; exact PU2.out _ PV _ bd.1 h
          have f2 : inV N m c (ptV l1) = true → inV N m c1 (ptV l1) = true := fun h => by rw [← e0]; exact PU2.out _ PV 0 (by omega) h
          have f3 : inV N m c (ptV l1) = true → inV N m c2 (ptV l1) = true := fun h => PD2.out _ PV 0 (by omega) (by rw [e0]; exact h)
          have f4 : inV N m c (ptV (addL l1 pd N)) = true → inV N m c2 (ptV l1) = true := fun h => PD2.out _ PV pd bd.1 (by rw [← eD]; exact h)
          clear eD e0 PV ZC0 ZC1 ZC2 Z5 U5 D5 V5 s1 s2 s4 PU2 PD2 G0 HK HQ B5 L16 c32 HM
          by_cases iz : inV N m c (ptV l1) = true
          · rw [f1 iz] at INuD
            rw [f2 iz] at INu
            rw [f3 iz] at INd
            rw [iz] at INz
            by_cases izd : inV N m c (ptV (addL l1 pd N)) = true
            · rw [izd] at INzD
              clear f1 f2 f3 f4 iz izd
              have Bq0 : Hid (Below w5.heap.size w5 w5) := Below.refl _ _
              go_wp2_with fail
              refine (INz.out w5 Bq0.out).mono ?_
              rintro e wq1 ⟨rfl, hb⟩
              have Bq1 : Hid (Below w5.heap.size w5 wq1) := beyondD Bq0.out hb
              clear hb
              go_wp2_with fail
              refine (LAT.out wq1 Bq1.out).mono ?_
              rintro e wq2 ⟨⟨al2, cl2, rfl, vl2⟩, hb⟩
              have Bq2 : Hid (Below w5.heap.size w5 wq2) := beyondD Bq1.out hb
              clear hb
              go_wp2_with fail
              refine (INuD.out wq2 al2 cl2 Bq2.out vl2.out).mono ?_
              rintro e wq3 ⟨rfl, hb⟩
              have Bq3 : Hid (Below w5.heap.size w5 wq3) := beyondD Bq2.out hb
              clear hb
              go_wp2_with fail
              refine (INu.out wq3 Bq3.out).mono ?_
              rintro e wq4 ⟨rfl, hb⟩
              have Bq4 : Hid (Below w5.heap.size w5 wq4) := beyondD Bq3.out hb
              clear hb
              go_wp2_with fail
              refine (INd.out wq4 Bq4.out).mono ?_
              rintro e wq5 ⟨rfl, hb⟩
              have Bq5 : Hid (Below w5.heap.size w5 wq5) := beyondD Bq4.out hb
              clear hb
              go_wp2_with fail
              refine (LAT.out wq5 Bq5.out).mono ?_
              rintro e wq6 ⟨⟨al6, cl6, rfl, vl6⟩, hb⟩
              have Bq6 : Hid (Below w5.heap.size w5 wq6) := beyondD Bq5.out hb
              clear hb
              go_wp2_with fail
              refine (INzD.out wq6 al6 cl6 Bq6.out vl6.out).mono ?_
              rintro e wq7 ⟨rfl, hb⟩
              have Bq7 : Hid (Below w5.heap.size w5 wq7) := beyondD Bq6.out hb
              clear hb
              go_wp2_with fail
              refine (INd.out wq7 Bq7.out).mono ?_
              rintro e wq8 ⟨rfl, hb⟩
              have Bq8 : Hid (Below w5.heap.size w5 wq8) := beyondD Bq7.out hb
              clear hb
              go_wp2_with fail
              go_meet
              exact ⟨rfl, Bq8⟩
            · rw [Bool.not_eq_true] at izd
              rw [izd] at INzD
              clear f1 f2 f3 f4 iz izd
              have Bq0 : Hid (Below w5.heap.size w5 w5) := Below.refl _ _
              go_wp2_with fail
              refine (INz.out w5 Bq0.out).mono ?_
              rintro e wq1 ⟨rfl, hb⟩
              have Bq1 : Hid (Below w5.heap.size w5 wq1) := beyondD Bq0.out hb
              clear hb
              go_wp2_with fail
              refine (LAT.out wq1 Bq1.out).mono ?_
              rintro e wq2 ⟨⟨al2, cl2, rfl, vl2⟩, hb⟩
              have Bq2 : Hid (Below w5.heap.size w5 wq2) := beyondD Bq1.out hb
              clear hb
              go_wp2_with fail
              refine (INuD.out wq2 al2 cl2 Bq2.out vl2.out).mono ?_
              rintro e wq3 ⟨rfl, hb⟩
              have Bq3 : Hid (Below w5.heap.size w5 wq3) := beyondD Bq2.out hb
              clear hb
              go_wp2_with fail
              refine (INu.out wq3 Bq3.out).mono ?_
              rintro e wq4 ⟨rfl, hb⟩
              have Bq4 : Hid (Below w5.heap.size w5 wq4) := beyondD Bq3.out hb
              clear hb
              go_wp2_with fail
              refine (INd.out wq4 Bq4.out).mono ?_
              rintro e wq5 ⟨rfl, hb⟩
              have Bq5 : Hid (Below w5.heap.size w5 wq5) := beyondD Bq4.out hb
              clear hb
              go_wp2_with fail
              refine (LAT.out wq5 Bq5.out).mono ?_
              rintro e wq6 ⟨⟨al6, cl6, rfl, vl6⟩, hb⟩
              have Bq6 : Hid (Below w5.heap.size w5 wq6) := beyondD Bq5.out hb
              clear hb
              go_wp2_with fail
              refine (INzD.out wq6 al6 cl6 Bq6.out vl6.out).mono ?_
              rintro e wq7 ⟨rfl, hb⟩
              have Bq7 : Hid (Below w5.heap.size w5 wq7) := beyondD Bq6.out hb
              clear hb
              go_wp2_with fail
              go_meet
              exact ⟨rfl, Bq7⟩
          · rw [Bool.not_eq_true] at iz
            rw [iz] at INz
            by_cases izd : inV N m c (ptV (addL l1 pd N)) = true
            · rw [f4 izd] at INd
              rw [izd] at INzD
              clear f1 f2 f3 f4 iz izd
              have Bq0 : Hid (Below w5.heap.size w5 w5) := Below.refl _ _
              go_wp2_with fail
              refine (INz.out w5 Bq0.out).mono ?_
              rintro e wq1 ⟨rfl, hb⟩
              have Bq1 : Hid (Below w5.heap.size w5 wq1) := beyondD Bq0.out hb
              clear hb
              go_wp2_with fail
              refine (LAT.out wq1 Bq1.out).mono ?_
              rintro e wq2 ⟨⟨al2, cl2, rfl, vl2⟩, hb⟩
              have Bq2 : Hid (Below w5.heap.size w5 wq2) := beyondD Bq1.out hb
              clear hb
              go_wp2_with fail
              refine (INzD.out wq2 al2 cl2 Bq2.out vl2.out).mono ?_
              rintro e wq3 ⟨rfl, hb⟩
              have Bq3 : Hid (Below w5.heap.size w5 wq3) := beyondD Bq2.out hb
              clear hb
              go_wp2_with fail
              refine (INd.out wq3 Bq3.out).mono ?_
              rintro e wq4 ⟨rfl, hb⟩
              have Bq4 : Hid (Below w5.heap.size w5 wq4) := beyondD Bq3.out hb
              clear hb
              go_wp2_with fail
              go_meet
              exact ⟨rfl, Bq4⟩
            · rw [Bool.not_eq_true] at izd
              rw [izd] at INzD
              clear f1 f2 f3 f4 iz izd
              have Bq0 : Hid (Below w5.heap.size w5 w5) := Below.refl _ _
              go_wp2_with fail
              refine (INz.out w5 Bq0.out).mono ?_
              rintro e wq1 ⟨rfl, hb⟩
              have Bq1 : Hid (Below w5.heap.size w5 wq1) := beyondD Bq0.out hb
              clear hb
              go_wp2_with fail
              refine (LAT.out wq1 Bq1.out).mono ?_
              rintro e wq2 ⟨⟨al2, cl2, rfl, vl2⟩, hb⟩
              have Bq2 : Hid (Below w5.heap.size w5 wq2) := beyondD Bq1.out hb
              clear hb
              go_wp2_with fail
              refine (INzD.out wq2 al2 cl2 Bq2.out vl2.out).mono ?_
              rintro e wq3 ⟨rfl, hb⟩
              have Bq3 : Hid (Below w5.heap.size w5 wq3) := beyondD Bq2.out hb
              clear hb
              go_wp2_with fail
              go_meet
              exact ⟨rfl, Bq3⟩
      case rest =>
        obtain ⟨rfl, hB6⟩ := hcut
        obtain ⟨w6, h6⟩ : ∃ w6, w6 = wc := ⟨_, rfl⟩
        subst h6
        have B6 := hideD (beyondD B5.out hB6.out)
        have Z6 := hideD (Z5.out.past hB6.out)
        have V6 : Hid (Vec w6 av cv N l1) := V5.out.past hB6.out
        have r1 := kc _ _ hB6.out s1.out
        have r2 := kc _ _ hB6.out s2.out
        have r4 := hideD (kc _ _ hB6.out s4.out)
        clear hB6 B5 Z5 V5 s1 s2 s4 U5 D5 ZC1 ZC2 PU2 PD2
        obtain ⟨xk, hxk, ek⟩ := rem_atP pc N (by omega) (by omega)
        have EK : Hid (wrap64 (1 + wrap64 ((IntKind.u64.wrap pc).tmod (N : Int))) = ((xk + 1 : Nat) : Int)) := by show _ = _; rw [ek]; unfold wrap64; omega
        obtain ⟨kk, hkk, ekk⟩ := rem_atP pn 30 (by omega) (by omega)
        have EK2 : Hid (wrap64 ((IntKind.u64.wrap pn).tmod 30) = (kk : Int)) := by show _ = _; rw [show (30 : Int) = ((30 : Nat) : Int) from rfl, ekk]; unfold wrap64; omega
        have uN : IntKind.u64.wrap (N : Int) = (N : Int) := by rw [IntKind.wrap_u64]; omega
        have s0 : ¬ (N : Int) = 0 := by omega
        obtain ⟨x, hx⟩ : ∃ x, xk + 1 = x := ⟨_, rfl⟩
        rw [hx] at EK
        have XX : Hid (1 ≤ x ∧ x ≤ N) := ⟨by omega, by omega⟩
        have KK : Hid (kk ≤ 29) := by show _ ≤ _; omega
        clear ek ekk
        go_upto_region 14 with (fail)
        rw [EK.out, EK2.out]
        clear EK EK2 uN s0 r1 r2 hx hxk hkk
        obtain ⟨o3, o4, c5, hSS⟩ := set_say (x := x) (k := (kk : Int)) hN HM.out ZC0.out XX.out.1 XX.out.2 (by omega) (by have := KK.out; omega)
        have SS := hideD hSS
        clear hSS
        obtain ⟨i0, hi0, hz0, hz1, hz2⟩ := info_parts info_i64'
        have LN : Hid (l1.length = N ∧ N ≤ 8 ∧ 1 ≤ N) := ⟨V6.out.len, hN, n1'⟩
        obtain ⟨cb, off, rfl⟩ : ∃ cb off, av = some ⟨cb, off, none⟩ := by
          rcases V6.out.ints with ⟨a, c, e, e'⟩ | ⟨cb, off, cap', e, _⟩
          · have := LN.out; subst e'; simp at this; omega
          · injection e with e1; exact ⟨cb, off, e1⟩
        have VC : Hid (∀ w', Below w6.heap.size w6 w' → ∀ j, j < N → w'.cell? ⟨cb, off + j, none⟩ = some (.int .i64 (l1.getD j 0))) := fun w' hb j hj => by
          rcases (V6.out.past hb).ints with ⟨a, c, e, e'⟩ | ⟨cb', off', cap', e, hcell⟩
          · have := LN.out; subst e'; simp at this; omega
          · injection e with e1 e2 e3
            injection e1 with e1
            injection e1 with f1 f2
            subst f1 f2
            exact hcell j (by omega)
        have O0 : Hid ((w6.alloc (.cells #[] 2)).ownsRow w6.heap.size 2 1 (.slice (some ⟨w6.heap.size, 0, none⟩) 0 0) 0 []) := World.ownsRow_made w6 #[] 0 (Nat.le_refl _) (by unfold maxLen; omega) (by simp)
        have Bz : Hid (Below w6.heap.size w6 (w6.alloc (.cells #[] 2))) := below_one _ _
        have Bs : Hid (w6.heap.size ≤ (w6.alloc (.cells #[] 2)).heap.size) := by show _ ≤ _; simp
        have HNa : Hid (∀ j u, (l1.map (Value.int .i64))[j]? = some u → (w6.alloc (.cells #[] 2)).cell? ((⟨cb, off, none⟩ : Addr).add j) = some u) := fun j u hj => by
          rw [List.getElem?_map] at hj
          by_cases hjl : j < l1.length
          · rw [List.getElem?_eq_getElem hjl] at hj
            injection hj with hj
            have h5 := VC.out _ Bz.out j (by have := LN.out; omega)
            rw [show l1.getD j 0 = l1[j] by simp [List.getD, hjl]] at h5
            rw [← hj, add_at]
            exact h5
          · rw [List.getElem?_eq_none (by omega)] at hj; cases hj
        go_cut [17] (fun vv wx => RowV wx vv w6.heap.size l1 ∧ Hid (Below w6.heap.size w6 wx))
        case first =>
          as_aux_lemma =>
            go_wp2_with (at_builtin; refine wpList_append_own _ rfl _ _ 65 rfl w6.heap.size 2 i0 (.int .i64 0) 1 8 Tryd.underlying65 hi0 hz0 hz1 hz2 rfl (by decide) (.slice (some ⟨w6.heap.size, 0, none⟩) 0 0) 0 [] rfl O0.out ⟨cb, off, none⟩ N cv (l1.map (Value.int .i64)) rfl (by have := LN.out; simp; omega) HNa.out (fun u hu => by obtain ⟨y, _, rfl⟩ := List.mem_map.1 hu; rfl) (by have := LN.out; unfold maxLen; omega) (by have := LN.out; omega) Bs.out ?_; intro v' w7 hown hgrow hnil')
            have hb7 : Below w6.heap.size w6 w7 := Bz.out.grown hgrow (by simp) (fun k hk => by simp [Value.ownBlock] at hk; omega)
            have e1 : 0 + N = l1.length := by have := LN.out; omega
            rw [e1, List.nil_append] at hown
            have lp : 0 < l1.length := by have := LN.out; omega
            obtain ⟨k1, hk1⟩ : ∃ k1, l1.length = k1 + 1 := ⟨l1.length - 1, by omega⟩
            have hown2 := hown
            rw [hk1] at hown2
            obtain ⟨g, cp, rfl⟩ := own_form hown2
            rw [← hk1]
            have lt := hown.lt g rfl
            have HR : RowV w7 (.slice (some ⟨g, 0, none⟩) l1.length cp) w6.heap.size l1 := ⟨g, cp, rfl, lt.1, fun j hj => by
              rw [hk1] at hj
              have h5 := hown2.cellAt j (by omega)
              rw [h5, List.getElem?_map, List.getElem?_eq_getElem (by omega)]
              simp [List.getD, List.getElem?_eq_getElem (show j < l1.length by omega)], fun a => hown2.frozenAt a⟩
            go_meet
            exact ⟨HR, hb7⟩
        case rest =>
          obtain ⟨⟨gs, cs, rfl, gl, hcell, hfz⟩, hB7⟩ := hcut
          obtain ⟨J, hJ⟩ : ∃ J, x = J + 1 := ⟨x - 1, by have := XX.out; omega⟩
          have xm : (x : Int) - 1 = (J : Int) := by omega
          have j0 : (0 : Int) ≤ (J : Int) := by omega
          have j1 : (J : Int) < (N : Int) := by have := XX.out; omega
          have kw : wrap64 (12 * (kk : Int)) = 12 * (kk : Int) := by have := KK.out; unfold wrap64; omega
          have kw2 : IntKind.i64.wrap (12 * (kk : Int)) = 12 * (kk : Int) := by have := KK.out; rw [IntKind.wrap_i64]; omega
          rw [LN.out.1] at hcell ⊢
          have c17 := hcell J (by omega)
          have f17 := hfz J
          have B8 : Hid (Below w6.heap.size w6 (wc.setCell ⟨gs, J, none⟩ (.int .i64 (12 * (kk : Int))))) := hB7.out.setCell (p := ⟨gs, J, none⟩) gl _
          obtain ⟨ls, hls⟩ : ∃ ls, ls = l1.set J (12 * (kk : Int)) := ⟨_, rfl⟩
          have ESV : Hid (∀ i, ptV ls i = SV (ptV l1) x kk i) := fun i => by rw [hls, show J = x - 1 by omega]; exact set_V LN.out.1 XX.out.1 XX.out.2 i
          have S8 : Hid (Vec (wc.setCell ⟨gs, J, none⟩ (.int .i64 (12 * (kk : Int)))) (some ⟨gs, 0, none⟩) cs N ls) := ⟨.inr ⟨gs, 0, cs, by rw [hls, List.length_set, LN.out.1], fun j hj => by
            rw [hls, List.length_set, LN.out.1] at hj
            rw [Nat.zero_add]
            by_cases e : j = J
            · subst e
              rw [World.cell?_setCell_same _ _ _ c17, hls, List.getD_eq_getElem?_getD, List.getElem?_set_self (by rw [LN.out.1]; exact hj)]
              rfl
            · rw [World.cell?_setCell_other _ _ _ _ (by intro e'; injection e'; omega), hcell j hj, hls, List.getD_eq_getElem?_getD, List.getD_eq_getElem?_getD, List.getElem?_set_ne (by omega)]⟩, by rw [hls, List.length_set, LN.out.1], fun y hy => by
            rw [hls] at hy
            rcases List.mem_or_eq_of_mem_set hy with h | h
            · exact V6.out.bd y h
            · have := KK.out; omega⟩
          have LSJ : Hid (ls.getD J 0 = 12 * (kk : Int)) := by show _ = _; rw [hls, List.getD_eq_getElem?_getD, List.getElem?_set_self (by have := LN.out; omega)]; rfl
          have XJ : Hid (ptV l1 x = l1.getD J 0) := by show _ = _; rw [hJ]; rfl
          clear hcell hfz O0 Bz Bs HNa gl hls hi0 hz0 hz1 hz2 hB7 hJ
          go_upto_region 16 with (fail)
          clear c17 f17 kw kw2
          generalize wc.setCell ⟨gs, J, none⟩ (.int .i64 (12 * (kk : Int))) = w8 at *
          have B8' := hideD (beyondD B6.out B8.out)
          have Z8 := hideD (Z6.out.past B8.out)
          have V8 : Hid (Vec w8 (some ⟨cb, off, none⟩) cv N l1) := V6.out.past B8.out
          have q4 := hideD (kc _ _ B8.out r4.out)
          have CA8 := hideD (VC.out w8 B8.out J (by omega))
          have CB8 : Hid (w8.cell? ⟨gs, J, none⟩ = some (.int .i64 (12 * (kk : Int)))) := by
            rcases S8.out.ints with ⟨a, c, e, e'⟩ | ⟨cb', off', cap', e, hc⟩
            · have h1 := S8.out.len; have := LN.out; subst e'; simp at h1; omega
            · injection e with e1 e2 e3
              injection e1 with e1
              injection e1 with f1 f2
              subst f1 f2
              have := hc J (by have h1 := S8.out.len; omega)
              rw [Nat.zero_add, LSJ.out] at this
              exact this
          have T3 := hideD (SS.out.t3 w8 b Z8.out)
          unfold Tells at T3
          clear B6 B8 Z6 V6 VC r4
          go_wp2_with fail
          refine T3.out.mono ?_
          rintro e w10 ⟨⟨BB3, hz3⟩, hb10⟩
          obtain ⟨pr, kr, rfl, h3⟩ := zo_of hz3
          have R10 := hideD h3
          have B10 := hideD (beyondD B8'.out hb10)
          have Z10 := hideD (Z8.out.past hb10)
          have V10 : Hid (Vec w10 (some ⟨cb, off, none⟩) cv N l1) := V8.out.past hb10
          have S10 : Hid (Vec w10 (some ⟨gs, 0, none⟩) cs N ls) := S8.out.past hb10
          have q10 := hideD (kc _ _ hb10 q4.out)
          have CA10 := hideD (kc _ _ hb10 CA8.out)
          have CB10 := hideD (kc _ _ hb10 CB8.out)
          have T4 := hideD (SS.out.t4 w10 b Z10.out)
          unfold Tells at T4
          clear T3 hz3 h3 hb10 B8' Z8 V8 S8 q4 CA8 CB8
          go_wp2_with fail
          refine T4.out.mono ?_
          rintro e w11 ⟨⟨BB4, hz4⟩, hb11⟩
          obtain ⟨pu, ku, rfl, h4⟩ := zo_of hz4
          have R11 := hideD h4
          have R10' := hideD (R10.out.past hb11)
          have B11 := hideD (beyondD B10.out hb11)
          have Z11 := hideD (Z10.out.past hb11)
          have V11 : Hid (Vec w11 (some ⟨cb, off, none⟩) cv N l1) := V10.out.past hb11
          have S11 : Hid (Vec w11 (some ⟨gs, 0, none⟩) cs N ls) := S10.out.past hb11
          have q11 := hideD (kc _ _ hb11 q10.out)
          have CA11 := hideD (kc _ _ hb11 CA10.out)
          have CB11 := hideD (kc _ _ hb11 CB10.out)
          have Ba := hideD (below_one w11 (.cells #[.int .i64 x] 3))
          have T5 := hideD (SS.out.t5 (w11.alloc (.cells #[.int .i64 x] 3)) b w11.heap.size 1 (Z11.out.past Ba.out) (by simp [go_sem]))
          unfold Tells at T5
          clear T4 hz4 h4 hb11 B10 Z10 V10 S10 q10 CA10 CB10 R10
          go_wp2_with fail
          generalize w11.alloc (.cells #[.int .i64 x] 3) = w12 at *
          refine T5.out.mono ?_
          rintro e w9 ⟨⟨BB5, b5, -, rfl, hz5⟩, hb12⟩
          have Bq := hideD (beyondD Ba.out hb12)
          have R3 := hideD (R10'.out.past Bq.out)
          have R4 := hideD (R11.out.past Bq.out)
          have B9 := hideD (beyondD B11.out Bq.out)
          have Z9 := hideD (Z11.out.past Bq.out)
          have F9 := hideD hz5
          have V9 : Hid (Vec w9 (some ⟨cb, off, none⟩) cv N l1) := V11.out.past Bq.out
          have S9 : Hid (Vec w9 (some ⟨gs, 0, none⟩) cs N ls) := S11.out.past Bq.out
          have q9 := hideD (kc _ _ Bq.out q11.out)
          have CA := hideD (kc _ _ Bq.out CA11.out)
          have CB := hideD (kc _ _ Bq.out CB11.out)
          clear T5 Ba hb12 Bq R10' R11 B11 Z11 hz5 V11 S11 q11 CA11 CB11
          have jw : IntKind.i64.wrap (J : Int) = (J : Int) := by rw [IntKind.wrap_i64]; omega
          go_upto_region 19 with (fail)
          go_cut [214] (fun s wx => s = .bool false ∧ Hid (Below w9.heap.size w9 wx))
          case first =>
            have INz : Hid (∀ w', Below w9.heap.size w9 w' → Calls Tryd.prog 43 #[.pointer (some ⟨b, 0, none⟩), .slice (some ⟨cb, off, none⟩) N cv] w' fun e w'' => e = .returned (.bool (inV N m c (ptV l1))) ∧ Below w'.heap.size w' w'') := fun w' h => inC hN n1' HM.out ZC0.out (Z9.out.past h) (V9.out.past h)
            have INzs : Hid (∀ w', Below w9.heap.size w9 w' → Calls Tryd.prog 43 #[.pointer (some ⟨b, 0, none⟩), .slice (some ⟨gs, 0, none⟩) N cs] w' fun e w'' => e = .returned (.bool (inV N m c (ptV ls))) ∧ Below w'.heap.size w' w'') := fun w' h => inC hN n1' HM.out ZC0.out (Z9.out.past h) (S9.out.past h)
            have INw : Hid (∀ w', Below w9.heap.size w9 w' → Calls Tryd.prog 43 #[.pointer (some ⟨b5, 0, none⟩), .slice (some ⟨cb, off, none⟩) N cv] w' fun e w'' => e = .returned (.bool (inV N m c5 (ptV l1))) ∧ Below w'.heap.size w' w'') := fun w' h => inC hN n1' HM.out SS.out.z5 (F9.out.past h) (V9.out.past h)
            have INws : Hid (∀ w', Below w9.heap.size w9 w' → Calls Tryd.prog 43 #[.pointer (some ⟨b5, 0, none⟩), .slice (some ⟨gs, 0, none⟩) N cs] w' fun e w'' => e = .returned (.bool (inV N m c5 (ptV ls))) ∧ Below w'.heap.size w' w'') := fun w' h => inC hN n1' HM.out SS.out.z5 (F9.out.past h) (S9.out.past h)
            have PV := V9.out.pt
            have eS : ∀ cc, inV N m cc (ptV ls) = inV N m cc (SV (ptV l1) x kk) := fun cc => inV_congr HM.out fun i hi => ESV.out i
            have ws : inV N m c5 (ptV ls) = inV N m c5 (ptV l1) := by rw [eS]; exact SS.out.b5 _ PV
            have iw : inV N m c (ptV l1) = true → inV N m c5 (ptV l1) = true := SS.out.a5 _ PV
            rw [ws] at INws
            cases o3 with
            | none =>
              obtain ⟨rfl, rfl⟩ := R3.out
              cases o4 with
              | none =>
                obtain ⟨rfl, rfl⟩ := R4.out
                by_cases iz : inV N m c (ptV l1) = true
                · as_aux_lemma =>
                    have iw1 := iw iz
                    rw [iw1] at INw INws
                    rw [iz] at INz
                    clear iw ws eS PV SS ZC0 Z9 V9 S9 F9 R3 R4 ESV G0 HK HQ iz iw1
                    refine w19_0100 N J x b 0 0 b5 gs cs cb off cv 0 true true _ _ _ _ _ _ _ _ _ _ _ _ _ _ _ _ _ _ _ _ _ _ _ _ _ _ _ _ _ _ _ _ _ _ _ _ _ _ _ _ _ _ _ _ _ _ _ _ _ _ _ _ _ _ _ _ _ _ _ _ _ _ _ _ _ _ _ _ _ _ _ _ _ _ _ _ _ _ _ _ _ _ _ _ _ _ _ _ _ _ _ _ _ _ _ _ _ _ _ _ _ _ _ _ _ _ _ _ _ _ _ _ _ _ _ _ _ _ _ _ _ _ _ _ _ _ _ _ _ _ _ _ _ _ _ _ _ _ _ _ _ _ _ _ _ _ _ _ _ _ _ _ _ _ _ _ _ _ _ _ _ _ _ _ _ _ _ _ _ _ _ _ _ _ _ _ _ _ _ _ _ _ _ _ _ _ _ _ _ _ _ _ _ _ _ _ _ _ _ _ _ _ _ _ _ _ _ _ _ _ _ _ _ _ _ _ _ _ _ _ _ _ _ _ _ _ _ _ _ _ _ _ _ _ _ _ _ _ w9 _ INz INw INws ?_
                    intro y141 y142 y143 y144 y145 y146 y147 y148 y149 y150 y151 y152 y153 y154 y155 y156 y157 y158 y159 y160 y161 y162 y163 y164 y165 y166 y167 y168 y169 y170 y171 y172 y173 y174 y175 y176 y177 y178 y179 y180 y181 y182 y183 y184 y185 y186 y187 y188 y189 y190 y191 y192 y193 y194 y195 y196 y197 y198 y199 y200 y201 y202 y203 y204 y205 y206 y207 y208 y209 y210 y211 y212 y213 w' hb'
                    go_wp2_with fail
                    go_meet
                    exact ⟨rfl, hb'⟩
                · as_aux_lemma =>
                    rw [Bool.not_eq_true] at iz
                    rw [iz] at INz
                    generalize inV N m c5 (ptV l1) = bw at *
                    clear iw ws eS PV SS ZC0 Z9 V9 S9 F9 R3 R4 ESV G0 HK HQ iz
                    refine w19_0000 N J x b 0 0 b5 gs cs cb off cv 0 true bw _ _ _ _ _ _ _ _ _ _ _ _ _ _ _ _ _ _ _ _ _ _ _ _ _ _ _ _ _ _ _ _ _ _ _ _ _ _ _ _ _ _ _ _ _ _ _ _ _ _ _ _ _ _ _ _ _ _ _ _ _ _ _ _ _ _ _ _ _ _ _ _ _ _ _ _ _ _ _ _ _ _ _ _ _ _ _ _ _ _ _ _ _ _ _ _ _ _ _ _ _ _ _ _ _ _ _ _ _ _ _ _ _ _ _ _ _ _ _ _ _ _ _ _ _ _ _ _ _ _ _ _ _ _ _ _ _ _ _ _ _ _ _ _ _ _ _ _ _ _ _ _ _ _ _ _ _ _ _ _ _ _ _ _ _ _ _ _ _ _ _ _ _ _ _ _ _ _ _ _ _ _ _ _ _ _ _ _ _ _ _ _ _ _ _ _ _ _ _ _ _ _ _ _ _ _ _ _ _ _ _ _ _ _ _ _ _ _ _ _ _ _ _ _ _ _ _ _ _ _ _ _ _ _ _ _ _ _ w9 _ INz INw INws ?_
                    intro y141 y142 y143 y144 y145 y146 y147 y148 y149 y150 y151 y152 y153 y154 y155 y156 y157 y158 y159 y160 y161 y162 y163 y164 y165 y166 y167 y168 y169 y170 y171 y172 y173 y174 y175 y176 y177 y178 y179 y180 y181 y182 y183 y184 y185 y186 y187 y188 y189 y190 y191 y192 y193 y194 y195 y196 y197 y198 y199 y200 y201 y202 y203 y204 y205 y206 y207 y208 y209 y210 y211 y212 y213 w' hb'
                    go_wp2_with fail
                    go_meet
                    exact ⟨rfl, hb'⟩
              | some c4 =>
                obtain ⟨rfl, b4, rfl, hz4⟩ := R4.out
                have INu : Hid (∀ w', Below w9.heap.size w9 w' → Calls Tryd.prog 43 #[.pointer (some ⟨b4, 0, none⟩), .slice (some ⟨cb, off, none⟩) N cv] w' fun e w'' => e = .returned (.bool (inV N m c4 (ptV l1))) ∧ Below w'.heap.size w' w'') := fun w' h => inC hN n1' HM.out (SS.out.z4 _ rfl) (hz4.past h) (V9.out.past h)
                have uv : inV N m c4 (ptV l1) = inV N m c (ptV ls) := by rw [eS]; exact SS.out.a4 _ rfl _ PV
                rw [uv] at INu
                by_cases iz : inV N m c (ptV l1) = true
                · as_aux_lemma =>
                    have iw1 := iw iz
                    rw [iw1] at INw INws
                    rw [iz] at INz
                    generalize inV N m c (ptV ls) = bs at *
                    clear iw ws eS PV SS ZC0 Z9 V9 S9 F9 R3 R4 ESV G0 HK HQ iz iw1 uv
                    refine w19_0101 N J x b 0 b4 b5 gs cs cb off cv 0 bs true _ _ _ _ _ _ _ _ _ _ _ _ _ _ _ _ _ _ _ _ _ _ _ _ _ _ _ _ _ _ _ _ _ _ _ _ _ _ _ _ _ _ _ _ _ _ _ _ _ _ _ _ _ _ _ _ _ _ _ _ _ _ _ _ _ _ _ _ _ _ _ _ _ _ _ _ _ _ _ _ _ _ _ _ _ _ _ _ _ _ _ _ _ _ _ _ _ _ _ _ _ _ _ _ _ _ _ _ _ _ _ _ _ _ _ _ _ _ _ _ _ _ _ _ _ _ _ _ _ _ _ _ _ _ _ _ _ _ _ _ _ _ _ _ _ _ _ _ _ _ _ _ _ _ _ _ _ _ _ _ _ _ _ _ _ _ _ _ _ _ _ _ _ _ _ _ _ _ _ _ _ _ _ _ _ _ _ _ _ _ _ _ _ _ _ _ _ _ _ _ _ _ _ _ _ _ _ _ _ _ _ _ _ _ _ _ _ _ _ _ _ _ _ _ _ _ _ _ _ _ _ _ _ _ _ _ _ _ w9 _ INz INu INzs INw INws ?_
                    intro y141 y142 y143 y144 y145 y146 y147 y148 y149 y150 y151 y152 y153 y154 y155 y156 y157 y158 y159 y160 y161 y162 y163 y164 y165 y166 y167 y168 y169 y170 y171 y172 y173 y174 y175 y176 y177 y178 y179 y180 y181 y182 y183 y184 y185 y186 y187 y188 y189 y190 y191 y192 y193 y194 y195 y196 y197 y198 y199 y200 y201 y202 y203 y204 y205 y206 y207 y208 y209 y210 y211 y212 y213 w' hb'
                    go_wp2_with fail
                    go_meet
                    exact ⟨rfl, hb'⟩
                · as_aux_lemma =>
                    rw [Bool.not_eq_true] at iz
                    rw [iz] at INz
                    generalize inV N m c5 (ptV l1) = bw at *
                    generalize inV N m c (ptV ls) = bs at *
                    clear iw ws eS PV SS ZC0 Z9 V9 S9 F9 R3 R4 ESV G0 HK HQ iz uv
                    refine w19_0001 N J x b 0 b4 b5 gs cs cb off cv 0 bs bw _ _ _ _ _ _ _ _ _ _ _ _ _ _ _ _ _ _ _ _ _ _ _ _ _ _ _ _ _ _ _ _ _ _ _ _ _ _ _ _ _ _ _ _ _ _ _ _ _ _ _ _ _ _ _ _ _ _ _ _ _ _ _ _ _ _ _ _ _ _ _ _ _ _ _ _ _ _ _ _ _ _ _ _ _ _ _ _ _ _ _ _ _ _ _ _ _ _ _ _ _ _ _ _ _ _ _ _ _ _ _ _ _ _ _ _ _ _ _ _ _ _ _ _ _ _ _ _ _ _ _ _ _ _ _ _ _ _ _ _ _ _ _ _ _ _ _ _ _ _ _ _ _ _ _ _ _ _ _ _ _ _ _ _ _ _ _ _ _ _ _ _ _ _ _ _ _ _ _ _ _ _ _ _ _ _ _ _ _ _ _ _ _ _ _ _ _ _ _ _ _ _ _ _ _ _ _ _ _ _ _ _ _ _ _ _ _ _ _ _ _ _ _ _ _ _ _ _ _ _ _ _ _ _ _ _ _ _ w9 _ INz INu INzs INw INws ?_
                    intro y141 y142 y143 y144 y145 y146 y147 y148 y149 y150 y151 y152 y153 y154 y155 y156 y157 y158 y159 y160 y161 y162 y163 y164 y165 y166 y167 y168 y169 y170 y171 y172 y173 y174 y175 y176 y177 y178 y179 y180 y181 y182 y183 y184 y185 y186 y187 y188 y189 y190 y191 y192 y193 y194 y195 y196 y197 y198 y199 y200 y201 y202 y203 y204 y205 y206 y207 y208 y209 y210 y211 y212 y213 w' hb'
                    go_wp2_with fail
                    go_meet
                    exact ⟨rfl, hb'⟩
            | some c3 =>
              obtain ⟨rfl, b3, rfl, hz3⟩ := R3.out
              have INr : Hid (∀ w', Below w9.heap.size w9 w' → Calls Tryd.prog 43 #[.pointer (some ⟨b3, 0, none⟩), .slice (some ⟨cb, off, none⟩) N cv] w' fun e w'' => e = .returned (.bool (inV N m c3 (ptV l1))) ∧ Below w'.heap.size w' w'') := fun w' h => inC hN n1' HM.out (SS.out.z3 _ rfl) (hz3.past h) (V9.out.past h)
              have INrs : Hid (∀ w', Below w9.heap.size w9 w' → Calls Tryd.prog 43 #[.pointer (some ⟨b3, 0, none⟩), .slice (some ⟨gs, 0, none⟩) N cs] w' fun e w'' => e = .returned (.bool (inV N m c3 (ptV ls))) ∧ Below w'.heap.size w' w'') := fun w' h => inC hN n1' HM.out (SS.out.z3 _ rfl) (hz3.past h) (S9.out.past h)
              have rs : inV N m c (ptV l1) = true → inV N m c3 (ptV ls) = true := fun h => by rw [eS]; exact SS.out.a3 _ rfl _ PV h
              have rv : inV N m c3 (ptV l1) = true → l1.getD J 0 = 12 * (kk : Int) := fun h => by have := SS.out.b3 _ rfl _ PV h; rw [XJ.out] at this; exact this
              cases o4 with
              | none =>
                obtain ⟨rfl, rfl⟩ := R4.out
                by_cases iz : inV N m c (ptV l1) = true
                · by_cases irv : inV N m c3 (ptV l1) = true
                  · as_aux_lemma =>
                      have iw1 := iw iz
                      rw [iw1] at INw INws
                      rw [rs iz] at INrs
                      rw [iz] at INz
                      have cj := rv irv
                      rw [irv] at INr
                      rw [cj] at CA
                      clear iw ws eS PV SS ZC0 Z9 V9 S9 F9 R3 R4 ESV G0 HK HQ iz iw1 rs rv irv cj
                      refine w19_1110 N J x b b3 0 b5 gs cs cb off cv (12 * (kk : Int)) true true _ _ _ _ _ _ _ _ _ _ _ _ _ _ _ _ _ _ _ _ _ _ _ _ _ _ _ _ _ _ _ _ _ _ _ _ _ _ _ _ _ _ _ _ _ _ _ _ _ _ _ _ _ _ _ _ _ _ _ _ _ _ _ _ _ _ _ _ _ _ _ _ _ _ _ _ _ _ _ _ _ _ _ _ _ _ _ _ _ _ _ _ _ _ _ _ _ _ _ _ _ _ _ _ _ _ _ _ _ _ _ _ _ _ _ _ _ _ _ _ _ _ _ _ _ _ _ _ _ _ _ _ _ _ _ _ _ _ _ _ _ _ _ _ _ _ _ _ _ _ _ _ _ _ _ _ _ _ _ _ _ _ _ _ _ _ _ _ _ _ _ _ _ _ _ _ _ _ _ _ _ _ _ _ _ _ _ _ _ _ _ _ _ _ _ _ _ _ _ _ _ _ _ _ _ _ _ _ _ _ _ _ _ _ _ _ _ _ _ _ _ _ _ _ _ _ _ _ _ _ _ _ _ _ _ _ _ _ w9 _ INz INrs INr INw INws xm j0 j1 jw CA CB ?_
                      intro y141 y142 y143 y144 y145 y146 y147 y148 y149 y150 y151 y152 y153 y154 y155 y156 y157 y158 y159 y160 y161 y162 y163 y164 y165 y166 y167 y168 y169 y170 y171 y172 y173 y174 y175 y176 y177 y178 y179 y180 y181 y182 y183 y184 y185 y186 y187 y188 y189 y190 y191 y192 y193 y194 y195 y196 y197 y198 y199 y200 y201 y202 y203 y204 y205 y206 y207 y208 y209 y210 y211 y212 y213 w' hb'
                      go_wp2_with fail
                      go_meet
                      exact ⟨rfl, hb'⟩
                  · as_aux_lemma =>
                      have iw1 := iw iz
                      rw [iw1] at INw INws
                      rw [rs iz] at INrs
                      rw [iz] at INz
                      rw [Bool.not_eq_true] at irv
                      rw [irv] at INr
                      clear iw ws eS PV SS ZC0 Z9 V9 S9 F9 R3 R4 ESV G0 HK HQ iz iw1 rs rv irv
                      refine w19_1100 N J x b b3 0 b5 gs cs cb off cv 0 true true _ _ _ _ _ _ _ _ _ _ _ _ _ _ _ _ _ _ _ _ _ _ _ _ _ _ _ _ _ _ _ _ _ _ _ _ _ _ _ _ _ _ _ _ _ _ _ _ _ _ _ _ _ _ _ _ _ _ _ _ _ _ _ _ _ _ _ _ _ _ _ _ _ _ _ _ _ _ _ _ _ _ _ _ _ _ _ _ _ _ _ _ _ _ _ _ _ _ _ _ _ _ _ _ _ _ _ _ _ _ _ _ _ _ _ _ _ _ _ _ _ _ _ _ _ _ _ _ _ _ _ _ _ _ _ _ _ _ _ _ _ _ _ _ _ _ _ _ _ _ _ _ _ _ _ _ _ _ _ _ _ _ _ _ _ _ _ _ _ _ _ _ _ _ _ _ _ _ _ _ _ _ _ _ _ _ _ _ _ _ _ _ _ _ _ _ _ _ _ _ _ _ _ _ _ _ _ _ _ _ _ _ _ _ _ _ _ _ _ _ _ _ _ _ _ _ _ _ _ _ _ _ _ _ _ _ _ _ w9 _ INz INrs INr INw INws ?_
                      intro y141 y142 y143 y144 y145 y146 y147 y148 y149 y150 y151 y152 y153 y154 y155 y156 y157 y158 y159 y160 y161 y162 y163 y164 y165 y166 y167 y168 y169 y170 y171 y172 y173 y174 y175 y176 y177 y178 y179 y180 y181 y182 y183 y184 y185 y186 y187 y188 y189 y190 y191 y192 y193 y194 y195 y196 y197 y198 y199 y200 y201 y202 y203 y204 y205 y206 y207 y208 y209 y210 y211 y212 y213 w' hb'
                      go_wp2_with fail
                      go_meet
                      exact ⟨rfl, hb'⟩
                · by_cases irv : inV N m c3 (ptV l1) = true
                  · as_aux_lemma =>
                      rw [Bool.not_eq_true] at iz
                      rw [iz] at INz
                      generalize inV N m c5 (ptV l1) = bw at *
                      have cj := rv irv
                      rw [irv] at INr
                      rw [cj] at CA
                      clear iw ws eS PV SS ZC0 Z9 V9 S9 F9 R3 R4 ESV G0 HK HQ iz rs rv irv cj
                      refine w19_1010 N J x b b3 0 b5 gs cs cb off cv (12 * (kk : Int)) true bw _ _ _ _ _ _ _ _ _ _ _ _ _ _ _ _ _ _ _ _ _ _ _ _ _ _ _ _ _ _ _ _ _ _ _ _ _ _ _ _ _ _ _ _ _ _ _ _ _ _ _ _ _ _ _ _ _ _ _ _ _ _ _ _ _ _ _ _ _ _ _ _ _ _ _ _ _ _ _ _ _ _ _ _ _ _ _ _ _ _ _ _ _ _ _ _ _ _ _ _ _ _ _ _ _ _ _ _ _ _ _ _ _ _ _ _ _ _ _ _ _ _ _ _ _ _ _ _ _ _ _ _ _ _ _ _ _ _ _ _ _ _ _ _ _ _ _ _ _ _ _ _ _ _ _ _ _ _ _ _ _ _ _ _ _ _ _ _ _ _ _ _ _ _ _ _ _ _ _ _ _ _ _ _ _ _ _ _ _ _ _ _ _ _ _ _ _ _ _ _ _ _ _ _ _ _ _ _ _ _ _ _ _ _ _ _ _ _ _ _ _ _ _ _ _ _ _ _ _ _ _ _ _ _ _ _ _ _ w9 _ INz INr INw INws xm j0 j1 jw CA CB ?_
                      intro y141 y142 y143 y144 y145 y146 y147 y148 y149 y150 y151 y152 y153 y154 y155 y156 y157 y158 y159 y160 y161 y162 y163 y164 y165 y166 y167 y168 y169 y170 y171 y172 y173 y174 y175 y176 y177 y178 y179 y180 y181 y182 y183 y184 y185 y186 y187 y188 y189 y190 y191 y192 y193 y194 y195 y196 y197 y198 y199 y200 y201 y202 y203 y204 y205 y206 y207 y208 y209 y210 y211 y212 y213 w' hb'
                      go_wp2_with fail
                      go_meet
                      exact ⟨rfl, hb'⟩
                  · as_aux_lemma =>
                      rw [Bool.not_eq_true] at iz
                      rw [iz] at INz
                      generalize inV N m c5 (ptV l1) = bw at *
                      rw [Bool.not_eq_true] at irv
                      rw [irv] at INr
                      clear iw ws eS PV SS ZC0 Z9 V9 S9 F9 R3 R4 ESV G0 HK HQ iz rs rv irv
                      refine w19_1000 N J x b b3 0 b5 gs cs cb off cv 0 true bw _ _ _ _ _ _ _ _ _ _ _ _ _ _ _ _ _ _ _ _ _ _ _ _ _ _ _ _ _ _ _ _ _ _ _ _ _ _ _ _ _ _ _ _ _ _ _ _ _ _ _ _ _ _ _ _ _ _ _ _ _ _ _ _ _ _ _ _ _ _ _ _ _ _ _ _ _ _ _ _ _ _ _ _ _ _ _ _ _ _ _ _ _ _ _ _ _ _ _ _ _ _ _ _ _ _ _ _ _ _ _ _ _ _ _ _ _ _ _ _ _ _ _ _ _ _ _ _ _ _ _ _ _ _ _ _ _ _ _ _ _ _ _ _ _ _ _ _ _ _ _ _ _ _ _ _ _ _ _ _ _ _ _ _ _ _ _ _ _ _ _ _ _ _ _ _ _ _ _ _ _ _ _ _ _ _ _ _ _ _ _ _ _ _ _ _ _ _ _ _ _ _ _ _ _ _ _ _ _ _ _ _ _ _ _ _ _ _ _ _ _ _ _ _ _ _ _ _ _ _ _ _ _ _ _ _ _ _ w9 _ INz INr INw INws ?_
                      intro y141 y142 y143 y144 y145 y146 y147 y148 y149 y150 y151 y152 y153 y154 y155 y156 y157 y158 y159 y160 y161 y162 y163 y164 y165 y166 y167 y168 y169 y170 y171 y172 y173 y174 y175 y176 y177 y178 y179 y180 y181 y182 y183 y184 y185 y186 y187 y188 y189 y190 y191 y192 y193 y194 y195 y196 y197 y198 y199 y200 y201 y202 y203 y204 y205 y206 y207 y208 y209 y210 y211 y212 y213 w' hb'
                      go_wp2_with fail
                      go_meet
                      exact ⟨rfl, hb'⟩
              | some c4 =>
                obtain ⟨rfl, b4, rfl, hz4⟩ := R4.out
                have INu : Hid (∀ w', Below w9.heap.size w9 w' → Calls Tryd.prog 43 #[.pointer (some ⟨b4, 0, none⟩), .slice (some ⟨cb, off, none⟩) N cv] w' fun e w'' => e = .returned (.bool (inV N m c4 (ptV l1))) ∧ Below w'.heap.size w' w'') := fun w' h => inC hN n1' HM.out (SS.out.z4 _ rfl) (hz4.past h) (V9.out.past h)
                have uv : inV N m c4 (ptV l1) = inV N m c (ptV ls) := by rw [eS]; exact SS.out.a4 _ rfl _ PV
                rw [uv] at INu
                by_cases iz : inV N m c (ptV l1) = true
                · by_cases irv : inV N m c3 (ptV l1) = true
                  · as_aux_lemma =>
                      have iw1 := iw iz
                      rw [iw1] at INw INws
                      rw [rs iz] at INrs
                      rw [iz] at INz
                      have cj := rv irv
                      rw [irv] at INr
                      rw [cj] at CA
                      generalize inV N m c (ptV ls) = bs at *
                      clear iw ws eS PV SS ZC0 Z9 V9 S9 F9 R3 R4 ESV G0 HK HQ iz iw1 rs rv uv irv cj
                      refine w19_1111 N J x b b3 b4 b5 gs cs cb off cv (12 * (kk : Int)) bs true _ _ _ _ _ _ _ _ _ _ _ _ _ _ _ _ _ _ _ _ _ _ _ _ _ _ _ _ _ _ _ _ _ _ _ _ _ _ _ _ _ _ _ _ _ _ _ _ _ _ _ _ _ _ _ _ _ _ _ _ _ _ _ _ _ _ _ _ _ _ _ _ _ _ _ _ _ _ _ _ _ _ _ _ _ _ _ _ _ _ _ _ _ _ _ _ _ _ _ _ _ _ _ _ _ _ _ _ _ _ _ _ _ _ _ _ _ _ _ _ _ _ _ _ _ _ _ _ _ _ _ _ _ _ _ _ _ _ _ _ _ _ _ _ _ _ _ _ _ _ _ _ _ _ _ _ _ _ _ _ _ _ _ _ _ _ _ _ _ _ _ _ _ _ _ _ _ _ _ _ _ _ _ _ _ _ _ _ _ _ _ _ _ _ _ _ _ _ _ _ _ _ _ _ _ _ _ _ _ _ _ _ _ _ _ _ _ _ _ _ _ _ _ _ _ _ _ _ _ _ _ _ _ _ _ _ _ _ w9 _ INz INrs INr INu INzs INw INws xm j0 j1 jw CA CB ?_
                      intro y141 y142 y143 y144 y145 y146 y147 y148 y149 y150 y151 y152 y153 y154 y155 y156 y157 y158 y159 y160 y161 y162 y163 y164 y165 y166 y167 y168 y169 y170 y171 y172 y173 y174 y175 y176 y177 y178 y179 y180 y181 y182 y183 y184 y185 y186 y187 y188 y189 y190 y191 y192 y193 y194 y195 y196 y197 y198 y199 y200 y201 y202 y203 y204 y205 y206 y207 y208 y209 y210 y211 y212 y213 w' hb'
                      go_wp2_with fail
                      go_meet
                      exact ⟨rfl, hb'⟩
                  · as_aux_lemma =>
                      have iw1 := iw iz
                      rw [iw1] at INw INws
                      rw [rs iz] at INrs
                      rw [iz] at INz
                      rw [Bool.not_eq_true] at irv
                      rw [irv] at INr
                      generalize inV N m c (ptV ls) = bs at *
                      clear iw ws eS PV SS ZC0 Z9 V9 S9 F9 R3 R4 ESV G0 HK HQ iz iw1 rs rv uv irv
                      refine w19_1101 N J x b b3 b4 b5 gs cs cb off cv 0 bs true _ _ _ _ _ _ _ _ _ _ _ _ _ _ _ _ _ _ _ _ _ _ _ _ _ _ _ _ _ _ _ _ _ _ _ _ _ _ _ _ _ _ _ _ _ _ _ _ _ _ _ _ _ _ _ _ _ _ _ _ _ _ _ _ _ _ _ _ _ _ _ _ _ _ _ _ _ _ _ _ _ _ _ _ _ _ _ _ _ _ _ _ _ _ _ _ _ _ _ _ _ _ _ _ _ _ _ _ _ _ _ _ _ _ _ _ _ _ _ _ _ _ _ _ _ _ _ _ _ _ _ _ _ _ _ _ _ _ _ _ _ _ _ _ _ _ _ _ _ _ _ _ _ _ _ _ _ _ _ _ _ _ _ _ _ _ _ _ _ _ _ _ _ _ _ _ _ _ _ _ _ _ _ _ _ _ _ _ _ _ _ _ _ _ _ _ _ _ _ _ _ _ _ _ _ _ _ _ _ _ _ _ _ _ _ _ _ _ _ _ _ _ _ _ _ _ _ _ _ _ _ _ _ _ _ _ _ _ w9 _ INz INrs INr INu INzs INw INws ?_
                      intro y141 y142 y143 y144 y145 y146 y147 y148 y149 y150 y151 y152 y153 y154 y155 y156 y157 y158 y159 y160 y161 y162 y163 y164 y165 y166 y167 y168 y169 y170 y171 y172 y173 y174 y175 y176 y177 y178 y179 y180 y181 y182 y183 y184 y185 y186 y187 y188 y189 y190 y191 y192 y193 y194 y195 y196 y197 y198 y199 y200 y201 y202 y203 y204 y205 y206 y207 y208 y209 y210 y211 y212 y213 w' hb'
                      go_wp2_with fail
                      go_meet
                      exact ⟨rfl, hb'⟩
                · by_cases irv : inV N m c3 (ptV l1) = true
                  · as_aux_lemma =>
                      rw [Bool.not_eq_true] at iz
                      rw [iz] at INz
                      generalize inV N m c5 (ptV l1) = bw at *
                      have cj := rv irv
                      rw [irv] at INr
                      rw [cj] at CA
                      generalize inV N m c (ptV ls) = bs at *
                      clear iw ws eS PV SS ZC0 Z9 V9 S9 F9 R3 R4 ESV G0 HK HQ iz rs rv uv irv cj
                      refine w19_1011 N J x b b3 b4 b5 gs cs cb off cv (12 * (kk : Int)) bs bw _ _ _ _ _ _ _ _ _ _ _ _ _ _ _ _ _ _ _ _ _ _ _ _ _ _ _ _ _ _ _ _ _ _ _ _ _ _ _ _ _ _ _ _ _ _ _ _ _ _ _ _ _ _ _ _ _ _ _ _ _ _ _ _ _ _ _ _ _ _ _ _ _ _ _ _ _ _ _ _ _ _ _ _ _ _ _ _ _ _ _ _ _ _ _ _ _ _ _ _ _ _ _ _ _ _ _ _ _ _ _ _ _ _ _ _ _ _ _ _ _ _ _ _ _ _ _ _ _ _ _ _ _ _ _ _ _ _ _ _ _ _ _ _ _ _ _ _ _ _ _ _ _ _ _ _ _ _ _ _ _ _ _ _ _ _ _ _ _ _ _ _ _ _ _ _ _ _ _ _ _ _ _ _ _ _ _ _ _ _ _ _ _ _ _ _ _ _ _ _ _ _ _ _ _ _ _ _ _ _ _ _ _ _ _ _ _ _ _ _ _ _ _ _ _ _ _ _ _ _ _ _ _ _ _ _ _ _ w9 _ INz INr INu INzs INw INws xm j0 j1 jw CA CB ?_
                      intro y141 y142 y143 y144 y145 y146 y147 y148 y149 y150 y151 y152 y153 y154 y155 y156 y157 y158 y159 y160 y161 y162 y163 y164 y165 y166 y167 y168 y169 y170 y171 y172 y173 y174 y175 y176 y177 y178 y179 y180 y181 y182 y183 y184 y185 y186 y187 y188 y189 y190 y191 y192 y193 y194 y195 y196 y197 y198 y199 y200 y201 y202 y203 y204 y205 y206 y207 y208 y209 y210 y211 y212 y213 w' hb'
                      go_wp2_with fail
                      go_meet
                      exact ⟨rfl, hb'⟩
                  · as_aux_lemma =>
                      rw [Bool.not_eq_true] at iz
                      rw [iz] at INz
                      generalize inV N m c5 (ptV l1) = bw at *
                      rw [Bool.not_eq_true] at irv
                      rw [irv] at INr
                      generalize inV N m c (ptV ls) = bs at *
                      clear iw ws eS PV SS ZC0 Z9 V9 S9 F9 R3 R4 ESV G0 HK HQ iz rs rv uv irv
                      refine w19_1001 N J x b b3 b4 b5 gs cs cb off cv 0 bs bw _ _ _ _ _ _ _ _ _ _ _ _ _ _ _ _ _ _ _ _ _ _ _ _ _ _ _ _ _ _ _ _ _ _ _ _ _ _ _ _ _ _ _ _ _ _ _ _ _ _ _ _ _ _ _ _ _ _ _ _ _ _ _ _ _ _ _ _ _ _ _ _ _ _ _ _ _ _ _ _ _ _ _ _ _ _ _ _ _ _ _ _ _ _ _ _ _ _ _ _ _ _ _ _ _ _ _ _ _ _ _ _ _ _ _ _ _ _ _ _ _ _ _ _ _ _ _ _ _ _ _ _ _ _ _ _ _ _ _ _ _ _ _ _ _ _ _ _ _ _ _ _ _ _ _ _ _ _ _ _ _ _ _ _ _ _ _ _ _ _ _ _ _ _ _ _ _ _ _ _ _ _ _ _ _ _ _ _ _ _ _ _ _ _ _ _ _ _ _ _ _ _ _ _ _ _ _ _ _ _ _ _ _ _ _ _ _ _ _ _ _ _ _ _ _ _ _ _ _ _ _ _ _ _ _ _ _ _ w9 _ INz INr INu INzs INw INws ?_
                      intro y141 y142 y143 y144 y145 y146 y147 y148 y149 y150 y151 y152 y153 y154 y155 y156 y157 y158 y159 y160 y161 y162 y163 y164 y165 y166 y167 y168 y169 y170 y171 y172 y173 y174 y175 y176 y177 y178 y179 y180 y181 y182 y183 y184 y185 y186 y187 y188 y189 y190 y191 y192 y193 y194 y195 y196 y197 y198 y199 y200 y201 y202 y203 y204 y205 y206 y207 y208 y209 y210 y211 y212 y213 w' hb'
                      go_wp2_with fail
                      go_meet
                      exact ⟨rfl, hb'⟩
          case rest =>
            obtain ⟨rfl, hB13⟩ := hcut
            obtain ⟨w13, h13⟩ : ∃ w13, w13 = wc := ⟨_, rfl⟩
            subst h13
            have R13 := hideD (R3.out.past hB13.out)
            have B13 := hideD (beyondD B9.out hB13.out)
            have Z13 := hideD (Z9.out.past hB13.out)
            have F13 := hideD (F9.out.past hB13.out)
            have V13 : Hid (Vec w13 (some ⟨cb, off, none⟩) cv N l1) := V9.out.past hB13.out
            have S13 : Hid (Vec w13 (some ⟨gs, 0, none⟩) cs N ls) := S9.out.past hB13.out
            have q13 := hideD (kc _ _ hB13.out q9.out)
            clear hB13 R3 R4 B9 Z9 F9 V9 S9 q9 CA CB jw
            go_upto_region 21 with (fail)
            go_cut [225] (fun s wx => s = .bool false ∧ Hid (Below w13.heap.size w13 wx))
            case first =>
              as_aux_lemma =>
                cases o3 with
                | none =>
                  obtain ⟨rfl, rfl⟩ := R13.out
                  clear R13 SS
                  go_wp2_with fail
                  go_meet
                  exact ⟨rfl, Below.refl _ _⟩
                | some c3 =>
                  obtain ⟨rfl, b3, rfl, hz3⟩ := R13.out
                  have eq : inV N m c3 (ptV ls) = inV N m c5 (ptV l1) := by rw [inV_congr HM.out fun i hi => ESV.out i]; exact SS.out.c3 _ rfl _ V13.out.pt
                  have I1 := hideD (inC hN n1' HM.out (SS.out.z3 _ rfl) hz3 S13.out)
                  rw [eq] at I1
                  have I2 : Hid (∀ w', Below w13.heap.size w13 w' → Calls Tryd.prog 43 #[.pointer (some ⟨b5, 0, none⟩), .slice (some ⟨cb, off, none⟩) N cv] w' fun e w'' => e = .returned (.bool (inV N m c5 (ptV l1))) ∧ Below w'.heap.size w' w'') := fun w' h => inC hN n1' HM.out SS.out.z5 (F13.out.past h) (V13.out.past h)
                  generalize inV N m c5 (ptV l1) = bw at *
                  clear eq R13 SS hz3 S13 F13 V13 ESV Z13 q13 G0 HK HQ
                  go_wp2_with fail
                  refine I1.out.mono ?_
                  rintro e w14 ⟨rfl, hb14⟩
                  have B14 := hideD hb14
                  clear I1 hb14
                  go_wp2_with fail
                  refine (I2.out w14 B14.out).mono ?_
                  rintro e w15 ⟨rfl, hb15⟩
                  have B15 : Hid (Below w13.heap.size w13 w15) := beyondD B14.out hb15
                  clear hb15 I2
                  cases bw with
                  | true =>
                    go_wp2_with fail
                    go_meet
                    exact ⟨rfl, B15⟩
                  | false =>
                    go_wp2_with fail
                    go_meet
                    exact ⟨rfl, B15⟩
            case rest =>
              obtain ⟨rfl, hB14⟩ := hcut
              obtain ⟨w14, h14⟩ : ∃ w14, w14 = wc := ⟨_, rfl⟩
              subst h14
              have B14 := hideD (beyondD B13.out hB14.out)
              have Z14 := hideD (Z13.out.past hB14.out)
              have V14 : Hid (Vec w14 (some ⟨cb, off, none⟩) cv N l1) := V13.out.past hB14.out
              have q14 := kc _ _ hB14.out q13.out
              have GS := hideD (guards_say (cap := p4) hN HM.out ZC0.out Z14.out Q4.out (G0.out w14 B14.out) (by have := HK.out; rw [Q4.out]; exact this) HQ.out)
              clear hB14 R13 B13 Z13 F13 V13 S13 q13 SS ESV LSJ XJ XX KK xm j0 j1
              go_wp2_with fail
              refine GS.out.mono ?_
              rintro e w15 ⟨hS15, hb15⟩
              have B15 := hideD (beyondD B14.out hb15)
              rcases hS15 with ⟨k, hk, rfl⟩ | ⟨c6, b6, rfl, hz6, zc6, P6, IN6⟩
              · clear GS
                go_wp2_with fail
                go_ret
                exact ⟨rfl, B15.out⟩
              · have INl := hideD (inC hN n1' HM.out zc6 hz6 (V14.out.past hb15))
                have INz : Hid (∀ w', Below w15.heap.size w15 w' → Calls Tryd.prog 43 #[.pointer (some ⟨b, 0, none⟩), .slice (some ⟨cb, off, none⟩) N cv] w' fun e w'' => e = .returned (.bool (inV N m c (ptV l1))) ∧ Below w'.heap.size w' w'') := fun w' h => inC hN n1' HM.out ZC0.out ((Z14.out.past hb15).past h) ((V14.out.past hb15).past h)
                have HO : Hid (∀ w', Below w15.heap.size w15 w' → Calls Tryd.prog 48 #[.slice (some ⟨cb, off, none⟩) N cv, .slice d4 q4 p4] w' fun e w'' => e = .returned (.bool (guaH (ptV l1) L q4)) ∧ Below w'.heap.size w' w'') := fun w' h => holds_any N q4 cv p4 _ d4 l1 L w' hN n1' LN.out.1 ((V14.out.past hb15).past h).ints (V14.out.bd) Q4.out (G0.out w' (beyondD B15.out h)) (by have := HQ.out; omega) (by have := IN6; rw [Q4.out] at this; exact this)
                have q15 := hideD (kc _ _ hb15 q14)
                have P6' := P6 _ V14.out.pt
                rw [Q4.out] at P6'
                rw [P6'] at INl
                clear GS q14 hb15 hz6 zc6 P6 IN6 P6' B14 Z14 V14 G0 HK HQ
                generalize guaH (ptV l1) L q4 = bg at *
                by_cases iz : inV N m c (ptV l1) = true
                · rw [iz] at INl INz
                  rw [Bool.true_and] at INl
                  clear iz
                  go_wp2_with fail
                  refine INl.out.mono ?_
                  rintro e w16 ⟨rfl, hb16⟩
                  have B16 := hideD hb16
                  clear INl hb16
                  go_wp2_with fail
                  refine (INz.out w16 B16.out).mono ?_
                  rintro e w17 ⟨rfl, hb17⟩
                  have B17 : Hid (Below w15.heap.size w15 w17) := beyondD B16.out hb17
                  have q17 := kc _ _ B17.out q15.out
                  clear INz hb17 B16
                  go_wp2_with fail
                  refine (HO.out w17 B17.out).mono ?_
                  rintro e w18 ⟨rfl, hb18⟩
                  go_wp2_with fail
                  go_ret
                  exact ⟨by simp, beyondD B15.out (beyondD B17.out hb18)⟩
                · rw [Bool.not_eq_true] at iz
                  rw [iz] at INl INz
                  rw [Bool.false_and] at INl
                  clear iz
                  go_wp2_with fail
                  refine INl.out.mono ?_
                  rintro e w16 ⟨rfl, hb16⟩
                  have B16 := hideD hb16
                  clear INl hb16
                  go_wp2_with fail
                  refine (INz.out w16 B16.out).mono ?_
                  rintro e w17 ⟨rfl, hb17⟩
                  go_wp2_with fail
                  go_ret
                  exact ⟨rfl, beyondD B15.out (beyondD B16.out hb17)⟩
end Go.Proofs.YtfffcmelkdmjaaaDoor
