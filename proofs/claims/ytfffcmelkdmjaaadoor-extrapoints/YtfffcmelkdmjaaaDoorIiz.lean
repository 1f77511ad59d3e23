/-
  The walk of the statement ExtraWider.
-/
import Derived.Test.YtfffcmelkdmjaaaDoorIhz
import Derived.Test.YtfffcmelkdmjaaaDoorIfz
import Derived.Test.YtfffcmelkdmjaaaDoorJfz
namespace Go.Proofs.YtfffcmelkdmjaaaDoor
open Go.RowKit
set_option linter.unusedVariables false
set_option maxRecDepth 100000
theorem IntsAt.form {w : World} {v : Value} {l : List Int} (h : IntsAt w v l) : ∃ ad cap, v = .slice ad l.length cap := by
  rcases h with ⟨ad, c, rfl, rfl⟩ | ⟨b, off, cap, rfl, _⟩
  · exact ⟨ad, c, rfl⟩
  · exact ⟨_, cap, rfl⟩
/-- What LU by greater constants tells: an error, or a zone between. -/
def OutB (w : World) (N m : Nat) (c ca : Row) (pb : Option Addr) (f : Int) : Prop := (f != 0) = true ∨ (f = 0 ∧ ∃ cb b', pb = some ⟨b', 0, none⟩ ∧ ZoneAt w b' N cb ∧ incB m ca cb = true ∧ incB m cb c = true)
theorem OutB.past {w w' : World} {N m : Nat} {c ca : Row} {pb : Option Addr} {f : Int} (h : OutB w N m c ca pb f) (hb : Below w.heap.size w w') : OutB w' N m c ca pb f := by
  rcases h with h | ⟨h, cb, b', h1, h2, h3⟩
  · exact .inl h
  · exact .inr ⟨h, cb, b', h1, h2.past hb, h3⟩
theorem lu_more {N m : Nat} {c ca : Row} {l0 l1 l2 : List Int} (hN : N ≤ 8) (hm : m = (N + 1) * (N + 1)) (zc : ZC N m c) (m0 : mayE N l0 = 0) (m1 : mayE N l1 = 0)
    (a1 : c = (fun _ => 0) → ca = fun _ => 0)
    (a2 : ∀ p, FullC N m p c → ∃ q, FullC N m q ca ∧ Le N q (wdP l0 l1 (frS (silL l0 l1 N) (silL l0 l1 N).length p)) ∧ ∀ s, Cl N s → Le N s (wdP l0 l1 (frS (silL l0 l1 N) (silL l0 l1 N).length p)) → Le N s q)
    (w : World) (b k cap k' cap' : Nat) (x x' : Option Addr) (hz : ZoneAt w b N c) (hl : (mrL l0 l2 N).length = k) (hv : IntsAt w (.slice x k cap) (mrL l0 l2 N)) (hl' : (mrL l1 l2 N).length = k') (hv' : IntsAt w (.slice x' k' cap') (mrL l1 l2 N)) :
    Calls Tryd.prog 59 #[.pointer (some ⟨b, 0, none⟩), .slice x k cap, .slice x' k' cap'] w fun e w' => (∃ pb f, e = .returned (.tuple #[.pointer pb, .int .i64 f]) ∧ Hid (OutB w' N m c ca pb f)) ∧ Below w.heap.size w w' := by
  have kN := mrL_len l0 l2 N
  have kN' := mrL_len l1 l2 N
  by_cases e0 : mayE N (mrL l0 l2 N) = 0
  · by_cases e1 : mayE N (mrL l1 l2 N) = 0
    · obtain ⟨cb, zb, ib, b1, b2, T⟩ := lu_row hN hm zc e0 e1
      have il := lu_less hN hm zc (mrL_le l0 l2 N) (mrL_le l1 l2 N) a1 b1 a2 b2 (fun k hk => ⟨(cstA_at (mayE_zero m0).2 k (by have := (mayE_zero m0).1; omega)).1, (cstA_at (mayE_zero m1).2 k (by have := (mayE_zero m1).1; omega)).1⟩)
      exact (T w b k cap k' cap' x x' hz hl hv hl' hv').mono fun e w' ⟨⟨B, b', _, h, hz'⟩, hb⟩ => ⟨⟨_, _, h, .inr ⟨rfl, cb, b', rfl, hz', il, ib⟩⟩, hb⟩
    · exact (lu_err2 hz hl hv (by omega) hl' hv' (by omega) e0 e1).mono fun e w' ⟨h, hw⟩ => ⟨⟨_, _, h, .inl (by simpa using e1)⟩, by rw [hw]; exact Below.refl _ _⟩
  · exact (lu_err1 hz hl hv (by omega) e0).mono fun e w' ⟨h, hw⟩ => ⟨⟨_, _, h, .inl (by simpa using e0)⟩, by rw [hw]; exact Below.refl _ _⟩
set_option maxHeartbeats 8000000 in
theorem extraWider.walk (n : Int) (hn : (Lit.int .i64 n).wf = true) (v : Value) (l : List Int) (v0 : Value) (l0 : List Int) (v1 : Value) (l1 : List Int) (v2 : Value) (l2 : List Int) (w : World) (ht : Pow w) (hS : SliceAt w v l) (wf : ∀ z ∈ l, (Lit.int .i32 z).wf = true) (hby : l.length * 4 ≤ 140737488355328) (hnil : ∀ {c}, v = .slice none 0 c → c = 0)
    (hi0 : IntsAt w v0 l0) (wf0 : ∀ z ∈ l0, (Lit.int .i64 z).wf = true) (by0 : l0.length ≤ 9223372036854775807) (hi1 : IntsAt w v1 l1) (wf1 : ∀ z ∈ l1, (Lit.int .i64 z).wf = true) (by1 : l1.length ≤ 9223372036854775807) (hi2 : IntsAt w v2 l2) (wf2 : ∀ z ∈ l2, (Lit.int .i64 z).wf = true) (by2 : l2.length ≤ 9223372036854775807) :
    Calls Tryd.prog 14 #[.int .i64 n, v, .agg #[v0, v1, v2]] w fun e w' => e = .returned (.bool true) ∧ Below w.heap.size w w' := by
  obtain ⟨o, z1, N1, s1⟩ := both5_any n v l w hS (wf_cells wf) (by omega)
  obtain ⟨d0, p0, rfl⟩ := hi0.form
  obtain ⟨d1, p1, rfl⟩ := hi1.form
  obtain ⟨d2, p2, rfl⟩ := hi2.form
  have HV : Hid (∀ w', Below w.heap.size w w' → Calls Tryd.prog 63 #[] w' fun e w'' => e = .returned (.bool true) ∧ Below w'.heap.size w' w'') := fun w' hb => elive_any w' (pow_later ht hb)
  have I0 : Hid (∀ w', Below w.heap.size w w' → IntsAt w' (.slice d0 l0.length p0) l0) := fun w' hb => hi0.past hb
  have I1 : Hid (∀ w', Below w.heap.size w w' → IntsAt w' (.slice d1 l1.length p1) l1) := fun w' hb => hi1.past hb
  have I2 : Hid (∀ w', Below w.heap.size w w' → IntsAt w' (.slice d2 l2.length p2) l2) := fun w' hb => hi2.past hb
  have B0 := hideD (below_one w (.cells #[.slice d0 l0.length p0, .slice d1 l1.length p1, .slice d2 l2.length p2] 100))
  have S1 := hideD s1
  have X0 : Hid ((w.alloc (.cells #[.slice d0 l0.length p0, .slice d1 l1.length p1, .slice d2 l2.length p2] 100)).cell? ⟨w.heap.size, 0, none⟩ = some (.slice d0 l0.length p0)) := by show _ = _; simp [go_sem]
  have Y0 : Hid ((w.alloc (.cells #[.slice d0 l0.length p0, .slice d1 l1.length p1, .slice d2 l2.length p2] 100)).cell? ⟨w.heap.size, 1, none⟩ = some (.slice d1 l1.length p1)) := by show _ = _; simp [go_sem]
  have Z0 : Hid ((w.alloc (.cells #[.slice d0 l0.length p0, .slice d1 l1.length p1, .slice d2 l2.length p2] 100)).cell? ⟨w.heap.size, 2, none⟩ = some (.slice d2 l2.length p2)) := by show _ = _; simp [go_sem]
  clear s1 hS wf hnil hby ht hn hi0 hi1 hi2 wf0 wf1 wf2
  generalize hq0 : l0.length = q0 at *
  generalize hq1 : l1.length = q1 at *
  generalize hq2 : l2.length = q2 at *
  have Q0 := hideD hq0
  have Q1 := hideD hq1
  have Q2 := hideD hq2
  clear hq0 hq1 hq2
  go_enter Tryd.func14, Tryd.ntmps14
  go_wp2_with fail
  generalize w.alloc (.cells #[.slice d0 q0 p0, .slice d1 q1 p1, .slice d2 q2 p2] 100) = w0 at *
  have S2 := hideD (S1.out w0 B0.out)
  clear S1
  refine S2.out.mono ?_
  rintro e w1 ⟨⟨p, q, rfl, hp, hq⟩, hb1⟩
  have B1 := hideD (beyondD B0.out hb1.out)
  have x1 := kc _ _ hb1.out X0.out
  have y1 := kc _ _ hb1.out Y0.out
  have z1' := kc _ _ hb1.out Z0.out
  clear S2 hb1 hq X0 Y0 Z0 B0
  cases o with
  | none =>
    obtain rfl := hp.out
    have HN := hideD (lu_nil (.slice d0 q0 p0) (.slice d1 q1 p1) w1)
    have HV1 := hideD (HV.out w1 B1.out)
    clear hp z1 N1 HV
    go_wp2_with fail
    refine HN.out.mono ?_
    rintro e w2 ⟨rfl, rfl⟩
    clear HN
    go_wp2_with fail
    refine HV1.out.mono ?_
    rintro e w3 ⟨rfl, hb3⟩
    go_wp2_with fail
    go_ret
    exact ⟨rfl, beyondD B1.out hb3⟩
  | some u =>
    obtain ⟨N, c⟩ := u
    obtain ⟨hN, c32, b, rfl, hz⟩ := hp.out
    have zc := z1 N c rfl
    obtain rfl := N1 N c rfl
    have Z1 := hideD hz
    clear hp z1 N1 hz
    by_cases m0 : mayE N l0 = 0
    · by_cases m1 : mayE N l1 = 0
      · obtain ⟨ca, za, ia, a1, a2, TA⟩ := lu_row hN (m := (N + 1) * (N + 1)) rfl zc m0 m1
        obtain ⟨cm, zm, im, -, -, TM⟩ := lu_row hN (m := (N + 1) * (N + 1)) rfl zc m0 m0
        have LN0 : q0 = N := by have := Q0.out; have := (mayE_zero m0).1; omega
        have LN1 : q1 = N := by have := Q1.out; have := (mayE_zero m1).1; omega
        have HA : Hid (∀ w', Below w.heap.size w w' → ZoneAt w' b N c → Tells w' N 59 #[.pointer (some ⟨b, 0, none⟩), .slice d0 q0 p0, .slice d1 q1 p1] (some ca)) := fun w' hb hz => TA w' b q0 p0 q1 p1 d0 d1 hz Q0.out (I0.out w' hb) Q1.out (I1.out w' hb)
        have HMx : Hid (∀ w', Below w.heap.size w w' → ZoneAt w' b N c → Tells w' N 61 #[.pointer (some ⟨b, 0, none⟩), .slice d0 q0 p0] (some cm)) := fun w' hb hz => max_tells _ _ N _ w' (TM w' b q0 p0 q0 p0 d0 d0 hz Q0.out (I0.out w' hb) Q0.out (I0.out w' hb))
        have HMl : Hid (∀ w', Below w.heap.size w w' → ZoneAt w' b N c → Tells w' N 59 #[.pointer (some ⟨b, 0, none⟩), .slice d0 q0 p0, .slice d0 q0 p0] (some cm)) := fun w' hb hz => TM w' b q0 p0 q0 p0 d0 d0 hz Q0.out (I0.out w' hb) Q0.out (I0.out w' hb)
        have HR0 : Hid (∀ w', Below w.heap.size w w' → Calls Tryd.prog 73 #[.slice d0 q0 p0, .slice d2 q2 p2] w' fun e w'' => (∃ x k c, e = .returned (.slice x k c) ∧ Hid ((mrL l0 l2 N).length = k ∧ IntsAt w'' (.slice x k c) (mrL l0 l2 N))) ∧ Below w'.heap.size w' w'') := fun w' hb => by
          have := more_any q0 p0 q2 p2 d0 d2 l0 l2 w' Q0.out Q2.out (I0.out w' hb) (I2.out w' hb) (by omega) by2
          rw [LN0] at this ⊢
          exact this
        have HR1 : Hid (∀ w', Below w.heap.size w w' → Calls Tryd.prog 73 #[.slice d1 q1 p1, .slice d2 q2 p2] w' fun e w'' => (∃ x k c, e = .returned (.slice x k c) ∧ Hid ((mrL l1 l2 N).length = k ∧ IntsAt w'' (.slice x k c) (mrL l1 l2 N))) ∧ Below w'.heap.size w' w'') := fun w' hb => by
          have := more_any q1 p1 q2 p2 d1 d2 l1 l2 w' Q1.out Q2.out (I1.out w' hb) (I2.out w' hb) (by omega) by2
          rw [LN1] at this ⊢
          exact this
        have HLM : Hid (∀ w' k cap k' cap' x x', ZoneAt w' b N c → ((mrL l0 l2 N).length = k ∧ IntsAt w' (.slice x k cap) (mrL l0 l2 N)) → ((mrL l1 l2 N).length = k' ∧ IntsAt w' (.slice x' k' cap') (mrL l1 l2 N)) → Calls Tryd.prog 59 #[.pointer (some ⟨b, 0, none⟩), .slice x k cap, .slice x' k' cap'] w' fun e w'' => (∃ pb f, e = .returned (.tuple #[.pointer pb, .int .i64 f]) ∧ Hid (OutB w'' N ((N + 1) * (N + 1)) c ca pb f)) ∧ Below w'.heap.size w' w'') := fun w' k cap k' cap' x x' hz h h' => lu_more hN rfl zc m0 m1 a1 a2 w' b k cap k' cap' x x' hz h.1 h.2 h'.1 h'.2
        have hA1 := hideD (HA.out w1 B1.out Z1.out)
        have n8 : ¬ ((8 : Int) < (N : Int)) := by omega
        unfold Tells at *
        clear HA TA TM a1 a2 m0 m1 I0 I1 I2 Q0 Q1 Q2 LN0 LN1
        go_wp2_with fail
        refine hA1.out.mono ?_
        rintro e w2 ⟨⟨B, pa, -, rfl, ha⟩, hb2⟩
        have B2 := hideD (beyondD B1.out hb2)
        have Z2 := hideD (Z1.out.past hb2)
        have A2 := hideD ha
        have x2 := kc _ _ hb2 x1
        have y2 := kc _ _ hb2 y1
        have z2 := kc _ _ hb2 z1'
        clear hA1 ha hb2 B1 Z1 x1 y1 z1'
        go_upto_region 5 with (fail)
        have B6 := Below.refl w2.heap.size w2
        have HR0' : Hid (∀ w', Below w2.heap.size w2 w' → _) := fun w' hb => HR0.out w' (beyondD B2.out hb)
        have HR1' : Hid (∀ w', Below w2.heap.size w2 w' → _) := fun w' hb => HR1.out w' (beyondD B2.out hb)
        have HLM' : Hid (∀ w' k cap k' cap' x x', Below w2.heap.size w2 w' → _ → _ → _) := fun w' k cap k' cap' x x' hb h h' => HLM.out w' k cap k' cap' x x' (Z2.out.past hb) h h'
        have x2' : w2.drew.cell? ⟨w.heap.size, 0, none⟩ = some (.slice d0 q0 p0) := x2
        have y2' : w2.drew.cell? ⟨w.heap.size, 1, none⟩ = some (.slice d1 q1 p1) := y2
        have z2' : w2.drew.cell? ⟨w.heap.size, 2, none⟩ = some (.slice d2 q2 p2) := z2
        clear HR0 HR1 HLM
        go_region_held3 (fun w5 => w5.cell? ⟨w.heap.size, 0, none⟩ = some (.slice d0 q0 p0) ∧ w5.cell? ⟨w.heap.size, 1, none⟩ = some (.slice d1 q1 p1) ∧ w5.cell? ⟨w.heap.size, 2, none⟩ = some (.slice d2 q2 p2))
          (first | (refine ⟨?_, ?_, ?_⟩ <;> with_reducible assumption) | go_keep)
          (first
            | (go_at_call 73; with_reducible refine (HR0'.out _ (by first | assumption | (apply Below.drew; assumption))).mono ?_; rintro e' w6 ⟨⟨xa, ka, ea, rfl, iA⟩, hb6⟩; have s0 := kc ⟨w.heap.size, 0, none⟩ (.slice d0 q0 p0) hb6 (by first | assumption | simp [go_sem, *]); have s1 := kc ⟨w.heap.size, 1, none⟩ (.slice d1 q1 p1) hb6 (by first | assumption | simp [go_sem, *]); have s2 := kc ⟨w.heap.size, 2, none⟩ (.slice d2 q2 p2) hb6 (by first | assumption | simp [go_sem, *]); have sA := beyondD (w := w2) (by first | assumption | (apply Below.drew; assumption)) hb6)
            | (go_at_call 73; with_reducible refine (HR1'.out _ (by first | assumption | (apply Below.drew; assumption))).mono ?_; rintro e' w7 ⟨⟨xb, kb, eb, rfl, iB⟩, hb7⟩; have t0 := kc ⟨w.heap.size, 0, none⟩ (.slice d0 q0 p0) hb7 (by first | assumption | simp [go_sem, *]); have t1 := kc ⟨w.heap.size, 1, none⟩ (.slice d1 q1 p1) hb7 (by first | assumption | simp [go_sem, *]); have t2 := kc ⟨w.heap.size, 2, none⟩ (.slice d2 q2 p2) hb7 (by first | assumption | simp [go_sem, *]); have sB := beyondD (w := w2) (by first | assumption | (apply Below.drew; assumption)) hb7; have iA2 : IntsAt w7 _ _ := iA.out.2.past hb7)
            | (go_at_call 59; with_reducible refine (HLM'.out _ _ _ _ _ _ _ (by first | assumption | (apply Below.drew; assumption)) ⟨iA.out.1, iA2⟩ iB.out).mono ?_; rintro e' w8 ⟨⟨pb, f, rfl, ob⟩, hb8⟩; have u0 := kc ⟨w.heap.size, 0, none⟩ (.slice d0 q0 p0) hb8 (by first | assumption | simp [go_sem, *]); have u1 := kc ⟨w.heap.size, 1, none⟩ (.slice d1 q1 p1) hb8 (by first | assumption | simp [go_sem, *]); have u2 := kc ⟨w.heap.size, 2, none⟩ (.slice d2 q2 p2) hb8 (by first | assumption | simp [go_sem, *]); have sC := beyondD (w := w2) (by first | assumption | (apply Below.drew; assumption)) hb8))
        have B8 := hideD (beyondD B2.out sC)
        have Z8 := hideD (Z2.out.past sC)
        have A8 := hideD (A2.out.past sC)
        have HM8 := hideD (HMx.out w8 B8.out Z8.out)
        have xx := u0
        clear s0 s1 s2 t0 t1 t2 u0 u1 u2 sA sB sC iA iB iA2 hb6 hb7 hb8 x2 y2 z2 x2' y2' z2' B2 Z2 A2 HR0' HR1' HLM' HMx B6
        go_wp2_with fail
        refine HM8.out.mono ?_
        rintro e w9 ⟨⟨B', px, -, rfl, hx⟩, hb9⟩
        have B9 := hideD (beyondD B8.out hb9)
        have Z9 := hideD (Z8.out.past hb9)
        have A9 := hideD (A8.out.past hb9)
        have O9 := hideD (ob.out.past hb9)
        have X9 := hideD hx
        have xx9 := kc _ _ hb9 xx
        have HL9 := hideD (HMl.out w9 B9.out Z9.out)
        clear HM8 hb9 hx xx B8 Z8 A8 ob HMl
        go_wp2_with fail
        refine HL9.out.mono ?_
        rintro e w10 ⟨⟨B'', py, -, rfl, hy⟩, hb10⟩
        have B10 := hideD (beyondD B9.out hb10)
        have Z10 := hideD (Z9.out.past hb10)
        have A10 := hideD (A9.out.past hb10)
        have O10 := hideD (O9.out.past hb10)
        have X10 := hideD (X9.out.past hb10)
        have Y10 := hideD hy
        have HV10 := hideD (HV.out w10 B10.out)
        clear HL9 hb10 hy xx9 B9 Z9 A9 O9 X9 HV
        go_wp2_with fail
        refine HV10.out.mono ?_
        rintro e w11 ⟨rfl, hb11⟩
        have B11 := hideD (beyondD B10.out hb11)
        have Z11 := hideD (Z10.out.past hb11)
        have A11 := hideD (A10.out.past hb11)
        have O11 := hideD (O10.out.past hb11)
        have X11 := hideD (X10.out.past hb11)
        have Y11 := hideD (Y10.out.past hb11)
        have I11 := hideD (inc_true ia A11.out Z11.out hN rfl)
        clear HV10 hb11 B10 Z10 A10 O10 X10 Y10
        go_wp2_with fail
        refine I11.out.mono ?_
        rintro e w12 ⟨rfl, hb12⟩
        have B12 := hideD (beyondD B11.out hb12)
        have Z12 := hideD (Z11.out.past hb12)
        have A12 := hideD (A11.out.past hb12)
        have O12 := O11.out.past hb12
        have X12 := hideD (X11.out.past hb12)
        have Y12 := hideD (Y11.out.past hb12)
        clear I11 hb12 B11 Z11 A11 O11 X11 Y11
        rcases O12 with hf | ⟨rfl, cb, b', rfl, hzb, i3, i4⟩
        · have E12 := hideD (eql_same px py N cm w12 X12.out Y12.out)
          go_wp2_with fail
          refine E12.out.mono ?_
          rintro e w13 ⟨rfl, hb13⟩
          go_wp2_with fail
          go_ret
          exact ⟨rfl, beyondD B12.out hb13⟩
        · have ZB := hideD hzb
          have I12 := hideD (inc_true i3 A12.out hzb hN rfl)
          clear hzb
          go_wp2_with fail
          refine I12.out.mono ?_
          rintro e w13 ⟨rfl, hb13⟩
          have B13 := hideD (beyondD B12.out hb13)
          have I13 := hideD (inc_true i4 (ZB.out.past hb13) (Z12.out.past hb13) hN rfl)
          have X13 := hideD (X12.out.past hb13)
          have Y13 := hideD (Y12.out.past hb13)
          clear I12 hb13 B12 Z12 A12 X12 Y12 ZB
          go_wp2_with fail
          refine I13.out.mono ?_
          rintro e w14 ⟨rfl, hb14⟩
          have B14 := hideD (beyondD B13.out hb14)
          have E14 := hideD (eql_same px py N cm w14 (X13.out.past hb14) (Y13.out.past hb14))
          clear I13 hb14 B13 X13 Y13
          go_wp2_with fail
          refine E14.out.mono ?_
          rintro e w15 ⟨rfl, hb15⟩
          go_wp2_with fail
          go_ret
          exact ⟨rfl, beyondD B14.out hb15⟩
      · have HE := hideD (lu_err2 Z1.out Q0.out (I0.out w1 B1.out) by0 Q1.out (I1.out w1 B1.out) by1 m0 m1)
        have he : (mayE N l1 != 0) = true := by simpa using m1
        have HV1 := hideD (HV.out w1 B1.out)
        generalize mayE N l1 = E at *
        clear I0 I1 I2 HV
        go_wp2_with fail
        refine HE.out.mono ?_
        rintro e w2 ⟨rfl, rfl⟩
        clear HE
        go_wp2_with fail
        refine HV1.out.mono ?_
        rintro e w3 ⟨rfl, hb3⟩
        go_wp2_with fail
        go_ret
        exact ⟨rfl, beyondD B1.out hb3⟩
    · have HE := hideD (lu_err1 (u := .slice d1 q1 p1) Z1.out Q0.out (I0.out w1 B1.out) by0 m0)
      have he : (mayE N l0 != 0) = true := by simpa using m0
      have HV1 := hideD (HV.out w1 B1.out)
      generalize mayE N l0 = E at *
      clear I0 I1 I2 HV
      go_wp2_with fail
      refine HE.out.mono ?_
      rintro e w2 ⟨rfl, rfl⟩
      clear HE
      go_wp2_with fail
      refine HV1.out.mono ?_
      rintro e w3 ⟨rfl, hb3⟩
      go_wp2_with fail
      go_ret
      exact ⟨rfl, beyondD B1.out hb3⟩
end Go.Proofs.YtfffcmelkdmjaaaDoor
