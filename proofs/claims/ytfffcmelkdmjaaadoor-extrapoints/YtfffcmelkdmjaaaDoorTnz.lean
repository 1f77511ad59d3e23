/-
  LU and Max by both ways: one answer. The walk of the statement ExtraWidens.
-/
import Derived.Test.YtfffcmelkdmjaaaDoorTlz
import Derived.Test.YtfffcmelkdmjaaaDoorWtz
namespace Go.Proofs.YtfffcmelkdmjaaaDoor
open Go.RowKit
set_option linter.unusedVariables false
set_option maxRecDepth 100000
theorem two_lu {w : World} {p q : Option Addr} {o : OZ} {v u v' u' : Value} {lo up : List Int} (h1 : PZ w p o) (h2 : RZ w q o) (h3 : ZCo o) (hv : IntsAt w v lo) (hu : IntsAt w u up) (hv' : IntsAt w v' lo) (hu' : IntsAt w u' up) (hl : lo.length ≤ 9223372036854775807) (hl' : up.length ≤ 9223372036854775807) :
    Two w 59 #[.pointer p, v, u] 60 #[.pointer q, v', u'] := by
  obtain ⟨a1, c1, rfl⟩ := hv.form
  obtain ⟨a2, c2, rfl⟩ := hu.form
  obtain ⟨a3, c3, rfl⟩ := hv'.form
  obtain ⟨a4, c4, rfl⟩ := hu'.form
  cases o with
  | none =>
    obtain rfl := h1
    obtain rfl := h2
    exact two_err 1 (fun w' _ => same_w (lu_nil _ _ w')) (fun w' _ => same_w (rlu_nil _ _ w'))
  | some x =>
    obtain ⟨n, c⟩ := x
    obtain ⟨hn, h32, b, rfl, hZ⟩ := h1
    obtain ⟨-, r, B, rfl, hR⟩ := h2
    have zc := h3 n c rfl
    obtain ⟨m, hm⟩ : ∃ m, m = (n + 1) * (n + 1) := ⟨_, rfl⟩
    rw [← hm] at zc hR
    by_cases e1 : mayE n lo = 0
    · by_cases e2 : mayE n up = 0
      · obtain ⟨d1, ca, z1, za, hL, R1, f1, e0, e3⟩ := lu_parts hn hm zc e1 e2
        have l1 := (mayE_zero e1).1
        have l2 := (mayE_zero e2).1
        have T : ∀ w', Below w.heap.size w w' → Tells w' n 59 #[.pointer (some ⟨b, 0, none⟩), .slice a1 lo.length c1, .slice a2 up.length c2] (some ca) := fun w' hb => by
          rw [← hL]
          exact lu_tells hn hm (hZ.past hb) zc rfl (hv.past hb) rfl (hu.past hb) e1 e2 z1 R1 f1
        have G : ∀ w', Below w.heap.size w w' → Calls Tryd.prog 60 #[.pointer (some ⟨r, 0, none⟩), .slice a3 lo.length c3, .slice a4 up.length c4] w' fun e w'' => RefOut w'' n m e (some ca) ∧ Below w'.heap.size w' w'' := fun w' hb => by
          have k1 := hv'.past hb
          have k2 := hu'.past hb
          rw [l1] at k1 ⊢
          rw [l2] at k2 ⊢
          exact rlu_main hn hm (hR.past hb) zc l1 k1 l2 k2 e1 e2 z1 hL e0 e3
        refine ⟨0, some (n, ca), fun w' hb => (T w' hb).mono fun e w'' h => ?_, fun w' hb => (G w' hb).mono fun e w'' h => ?_, fun n' c' e => ?_⟩
        · obtain ⟨⟨B', b', -, rfl, hz'⟩, hb'⟩ := h
          exact ⟨⟨_, rfl, hn, zc_32 hm za, b', rfl, hz'⟩, hb'⟩
        · obtain ⟨h, hb'⟩ := h
          obtain ⟨b', e1, B', h'⟩ := ref_form h
          rw [hm] at h'
          exact ⟨⟨_, e1, hn, b', B', rfl, h'⟩, hb'⟩
        · cases e
          rw [← hm]
          exact za
      · exact two_err (mayE n up) (fun w' hb => same_w (lu_err2 (hZ.past hb) rfl (hv.past hb) hl rfl (hu.past hb) hl' e1 e2)) (fun w' hb => same_w (rlu_err2 (hR.past hb) rfl (hv'.past hb) hl rfl (hu'.past hb) hl' e1 e2))
    · exact two_err (mayE n lo) (fun w' hb => same_w (lu_err1 (hZ.past hb) rfl (hv.past hb) hl e1)) (fun w' hb => same_w (rlu_err1 (hR.past hb) rfl (hv'.past hb) hl e1))
theorem sayP_max {w : World} {v u : Value} {k : Int} {o : OZ} (h : SayP w 59 #[v, u, u] k o) : SayP w 61 #[v, u] k o := fun w' hb => by
  have H := hideD (h w' hb)
  clear h
  go_enter Tryd.func61, Tryd.ntmps61
  go_wp2_with fail
  refine H.out.mono ?_
  rintro e w'' ⟨⟨p, rfl, hp⟩, hb'⟩
  clear H
  go_wp2_with fail
  exact bodyPost_ret (v := .tuple #[.pointer p, .int .i64 k]) (by simp [results, Tryd.results61, go_sem]) rfl ⟨⟨p, rfl, hp⟩, hb'⟩
theorem sayR_max {w : World} {v u : Value} {k : Int} {o : OZ} (h : SayR w 60 #[v, u, u] k o) : SayR w 62 #[v, u] k o := fun w' hb => by
  have H := hideD (h w' hb)
  clear h
  go_enter Tryd.func62, Tryd.ntmps62
  go_wp2_with fail
  refine H.out.mono ?_
  rintro e w'' ⟨⟨p, rfl, hp⟩, hb'⟩
  clear H
  go_wp2_with fail
  exact bodyPost_ret (v := .tuple #[.pointer p, .int .i64 k]) (by simp [results, Tryd.results62, go_sem]) rfl ⟨⟨p, rfl, hp⟩, hb'⟩
set_option maxHeartbeats 16000000 in
theorem extraWidens.walk (n : Int) (hn : (Lit.int .i64 n).wf = true) (v : Value) (l : List Int) (v0 : Value) (l0 : List Int) (v1 : Value) (l1 : List Int) (w : World) (ht : Pow w) (hS : SliceAt w v l) (wf : ∀ z ∈ l, (Lit.int .i32 z).wf = true) (hby : l.length * 4 ≤ 140737488355328) (hnil : ∀ {c}, v = .slice none 0 c → c = 0)
    (hi0 : IntsAt w v0 l0) (wf0 : ∀ z ∈ l0, (Lit.int .i64 z).wf = true) (by0 : l0.length * 8 ≤ 140737488355328) (nl0 : v0 = .slice none 0 0 ∨ ∃ a c, v0 = .slice (some a) l0.length c) (hi1 : IntsAt w v1 l1) (wf1 : ∀ z ∈ l1, (Lit.int .i64 z).wf = true) (by1 : l1.length * 8 ≤ 140737488355328) (nl1 : v1 = .slice none 0 0 ∨ ∃ a c, v1 = .slice (some a) l1.length c) :
    Calls Tryd.prog 12 #[.int .i64 n, v, .agg #[v0, v1]] w fun e w' => e = .returned (.bool true) ∧ Below w.heap.size w w' := by
  obtain ⟨o, z1, N1, s1⟩ := both5_any n v l w hS (wf_cells wf) (by omega)
  obtain ⟨d0, p0, rfl⟩ := hi0.form
  obtain ⟨d1, p1, rfl⟩ := hi1.form
  have HV : Hid (∀ w', Below w.heap.size w w' → Calls Tryd.prog 63 #[] w' fun e w'' => e = .returned (.bool true) ∧ Below w'.heap.size w' w'') := fun w' hb => elive_any w' (pow_later ht hb)
  have HH0 : Hid (∀ w', Below w.heap.size w w' → Calls Tryd.prog 58 #[.slice d0 l0.length p0] w' fun e w'' => (∃ g, e = .returned (.slice (some ⟨g, 0, none⟩) l0.length (l0.length + 9)) ∧ Hid (∀ j, j < l0.length + 9 → w''.cell? ⟨g, j, none⟩ = some (.int .i64 (roomI l0 l0.length j)))) ∧ Hid (Below w'.heap.size w' w'')) := fun w' hb => (hand_ints l0.length p0 d0 l0 w' rfl (hi0.past hb) by0).mono fun e w'' ⟨h1, h2, h3, h4⟩ => ⟨⟨_, h1, h2⟩, h4⟩
  have HK0 : Hid (∀ g w', Below w.heap.size w w' → (∀ j, j < l0.length + 9 → w'.cell? ⟨g, j, none⟩ = some (.int .i64 (roomI l0 l0.length j))) → Calls Tryd.prog 67 #[.slice (some ⟨g, 0, none⟩) l0.length (l0.length + 9), .slice d0 l0.length p0] w' fun e w'' => e = .returned (.bool true) ∧ Below w'.heap.size w' w'') := fun g w' hb hg => kept_ints g l0.length p0 d0 l0 w' rfl hg (hi0.past hb) by0
  have I0 : Hid (∀ w', Below w.heap.size w w' → IntsAt w' (.slice d0 l0.length p0) l0) := fun w' hb => hi0.past hb
  have HH1 : Hid (∀ w', Below w.heap.size w w' → Calls Tryd.prog 58 #[.slice d1 l1.length p1] w' fun e w'' => (∃ g, e = .returned (.slice (some ⟨g, 0, none⟩) l1.length (l1.length + 9)) ∧ Hid (∀ j, j < l1.length + 9 → w''.cell? ⟨g, j, none⟩ = some (.int .i64 (roomI l1 l1.length j)))) ∧ Hid (Below w'.heap.size w' w'')) := fun w' hb => (hand_ints l1.length p1 d1 l1 w' rfl (hi1.past hb) by1).mono fun e w'' ⟨h1, h2, h3, h4⟩ => ⟨⟨_, h1, h2⟩, h4⟩
  have HK1 : Hid (∀ g w', Below w.heap.size w w' → (∀ j, j < l1.length + 9 → w'.cell? ⟨g, j, none⟩ = some (.int .i64 (roomI l1 l1.length j))) → Calls Tryd.prog 67 #[.slice (some ⟨g, 0, none⟩) l1.length (l1.length + 9), .slice d1 l1.length p1] w' fun e w'' => e = .returned (.bool true) ∧ Below w'.heap.size w' w'') := fun g w' hb hg => kept_ints g l1.length p1 d1 l1 w' rfl hg (hi1.past hb) by1
  have I1 : Hid (∀ w', Below w.heap.size w w' → IntsAt w' (.slice d1 l1.length p1) l1) := fun w' hb => hi1.past hb
  have B0 := hideD (below_one w (.cells #[.slice d0 l0.length p0, .slice d1 l1.length p1] 90))
  have S1 := hideD s1
  have X0 : Hid ((w.alloc (.cells #[.slice d0 l0.length p0, .slice d1 l1.length p1] 90)).cell? ⟨w.heap.size, 0, none⟩ = some (.slice d0 l0.length p0)) := by show _ = _; simp [go_sem]
  have Y0 : Hid ((w.alloc (.cells #[.slice d0 l0.length p0, .slice d1 l1.length p1] 90)).cell? ⟨w.heap.size, 1, none⟩ = some (.slice d1 l1.length p1)) := by show _ = _; simp [go_sem]
  clear s1 hS wf hnil hby ht hn hi0 hi1 wf0 wf1 nl0 nl1
  have HZ1 := hideD z1
  generalize hq0 : l0.length = q0 at *
  have Q0 := hideD hq0
  generalize hq1 : l1.length = q1 at *
  have Q1 := hideD hq1
  clear hq0 hq1 z1
  go_enter Tryd.func12, Tryd.ntmps12
  go_wp2_with fail
  generalize w.alloc (.cells #[.slice d0 q0 p0, .slice d1 q1 p1] 90) = w0 at *
  have S2 := hideD (S1.out w0 B0.out)
  clear S1
  refine S2.out.mono ?_
  rintro e w1 ⟨⟨p, q, rfl, hp, hq⟩, hb1⟩
  have B1 := hideD (beyondD B0.out hb1.out)
  have x1 := kc _ _ hb1.out X0.out
  have y1 := kc _ _ hb1.out Y0.out
  have x1' : w1.drew.cell? ⟨w.heap.size, 0, none⟩ = some (.slice d0 q0 p0) := x1
  have y1' : w1.drew.cell? ⟨w.heap.size, 1, none⟩ = some (.slice d1 q1 p1) := y1
  have G0 : Hid (∀ w', Below w1.heap.size w1 w' → _) := fun w' hb => HH0.out w' (beyondD B1.out hb)
  have G1 : Hid (∀ w', Below w1.heap.size w1 w' → _) := fun w' hb => HH1.out w' (beyondD B1.out hb)
  have B6 := Below.refl w1.heap.size w1
  clear S2 hb1 X0 Y0 B0 HH0 HH1
  go_upto_region 2 with (fail)
  go_region_held3 (fun w5 => w5.cell? ⟨w.heap.size, 0, none⟩ = some (.slice d0 q0 p0) ∧ w5.cell? ⟨w.heap.size, 1, none⟩ = some (.slice d1 q1 p1))
    (first | (refine ⟨?_, ?_⟩ <;> with_reducible assumption) | go_keep)
    (first
      | (go_at_call 58; with_reducible refine (G0.out _ (by first | assumption | (apply Below.drew; assumption))).mono ?_; rintro e' w6 ⟨⟨g0, rfl, rm0⟩, hb6⟩; have ra0 := kc ⟨w.heap.size, 0, none⟩ (.slice d0 q0 p0) hb6.out (by first | assumption | simp [go_sem, *]); have ra1 := kc ⟨w.heap.size, 1, none⟩ (.slice d1 q1 p1) hb6.out (by first | assumption | simp [go_sem, *]); have sa := beyondD (w := w1) (by first | assumption | (apply Below.drew; assumption)) hb6.out)
      | (go_at_call 58; with_reducible refine (G1.out _ (by first | assumption | (apply Below.drew; assumption))).mono ?_; rintro e' w7 ⟨⟨g1, rfl, rm1⟩, hb7⟩; have rb0 := kc ⟨w.heap.size, 0, none⟩ (.slice d0 q0 p0) hb7.out (by first | assumption | simp [go_sem, *]); have rb1 := kc ⟨w.heap.size, 1, none⟩ (.slice d1 q1 p1) hb7.out (by first | assumption | simp [go_sem, *]); have sb := beyondD (w := w1) (by first | assumption | (apply Below.drew; assumption)) hb7.out; have rm0' := hideD (fun j (hj : j < q0 + 9) => kc ⟨g0, j, none⟩ (.int .i64 (roomI l0 q0 j)) hb7.out (rm0.out j hj))))
  all_goals
    have B7 := hideD (beyondD B1.out sb)
    have P7 := hideD (hp.out.past sb)
    have Q7 := hideD (hq.out.past sb)
    have x7 := rb0
    have y7 := rb1
    have own0 : IntsAt w7 (.slice (some ⟨g0, 0, none⟩) q0 (q0 + 9)) l0 := room_ints Q0.out rm0'.out
    have own1 : IntsAt w7 (.slice (some ⟨g1, 0, none⟩) q1 (q1 + 9)) l1 := room_ints Q1.out rm1.out
    obtain ⟨k, o2, u1, u2, -⟩ := two_lu P7.out Q7.out HZ1.out own0 own1 (I0.out w7 B7.out) (I1.out w7 B7.out) (by have := Q0.out; omega) (by have := Q1.out; omega)
    obtain ⟨k', o3, t1, t2, -⟩ := two_lu P7.out Q7.out HZ1.out own0 own0 (I0.out w7 B7.out) (I0.out w7 B7.out) (by have := Q0.out; omega) (by have := Q0.out; omega)
    have U1 := hideD (u1 _ (Below.refl _ _))
    have U2 := hideD u2
    have T1 := hideD (sayP_max t1)
    have T2 := hideD (sayR_max t2)
    have R0 := hideD rm0'.out
    have R1 := hideD rm1.out
    clear u1 u2 t1 t2 own0 own1 hp hq B1 B6 G0 G1 x1 y1 x1' y1' ra0 ra1 rb0 rb1 sa sb rm0 rm1 rm0' hb6 hb7 HZ1
    go_wp2_with fail
    refine U1.out.mono ?_
    rintro e w8 ⟨⟨pa, rfl, hpa⟩, hb8⟩
    have B8 := hideD hb8.out
    have x8 := kc _ _ hb8.out x7
    have y8 := kc _ _ hb8.out y7
    have U3 := hideD (U2.out _ hb8.out)
    clear U1 U2 x7 y7 hb8
    go_wp2_with fail
    refine U3.out.mono ?_
    rintro e w9 ⟨⟨qa, rfl, hqa⟩, hb9⟩
    have B9 := hideD (beyondD B8.out hb9.out)
    have x9 := kc _ _ hb9.out x8
    have y9 := kc _ _ hb9.out y8
    have PA9 := hideD (hpa.out.past hb9.out)
    have T3 := hideD (T1.out _ B9.out)
    clear U3 T1 x8 y8 hb9 hpa B8
    go_wp2_with fail
    refine T3.out.mono ?_
    rintro e w10 ⟨⟨pc, rfl, hpc⟩, hb10⟩
    have B10 := hideD (beyondD B9.out hb10.out)
    have x10 := kc _ _ hb10.out x9
    have y10 := kc _ _ hb10.out y9
    have PA10 := hideD (PA9.out.past hb10.out)
    have QA10 := hideD (hqa.out.past hb10.out)
    have T4 := hideD (T2.out _ B10.out)
    clear T3 T2 x9 y9 hb10 PA9 hqa B9
    go_wp2_with fail
    refine T4.out.mono ?_
    rintro e w11 ⟨⟨qc, rfl, hqc⟩, hb11⟩
    have B11 := hideD (beyondD B10.out hb11.out)
    have x11 := kc _ _ hb11.out x10
    have y11 := kc _ _ hb11.out y10
    have PA := hideD (PA10.out.past hb11.out)
    have QA := hideD (QA10.out.past hb11.out)
    have PC := hideD (hpc.out.past hb11.out)
    have QC := hideD hqc.out
    have PZ0 := hideD (P7.out.past B11.out)
    have QZ0 := hideD (Q7.out.past B11.out)
    have BA := hideD (beyondD B7.out B11.out)
    have R0' : Hid (∀ j, j < q0 + 9 → w11.cell? ⟨g0, j, none⟩ = some (.int .i64 (roomI l0 q0 j))) := fun j hj => kc _ _ B11.out (R0.out j hj)
    have R1' : Hid (∀ j, j < q1 + 9 → w11.cell? ⟨g1, j, none⟩ = some (.int .i64 (roomI l1 q1 j))) := fun j hj => kc _ _ B11.out (R1.out j hj)
    clear T4 x10 y10 hb11 PA10 QA10 hpc hqc B10 P7 Q7 R0 R1 B7 B11
    have L2 := hideD (ozL_len o2 PA.out.n8)
    have L3 := hideD (ozL_len o3 PC.out.n8)
    have L0 := hideD (ozL_len o PZ0.out.n8)
    have C1 : Hid (∀ w', Below w11.heap.size w11 w' → Calls Tryd.prog 63 #[] w' fun e w'' => e = .returned (.bool true) ∧ Below w'.heap.size w' w'') := fun w' hb => HV.out w' (beyondD BA.out hb)
    have SC : Hid (∀ o' u v w', (ozL o').length ≤ 81 → SliceAt w' u (ozL o') → SliceAt w' v (ozL o') → Calls Tryd.prog 64 #[u, v] w' fun e w'' => e = .returned (.bool true) ∧ Below w'.heap.size w' w'') := fun o' u v w' hl h1 h2 => (same_slices u v _ w' h1 h2 (by omega)).mono fun e w'' ⟨h1, k, h2⟩ => ⟨h1, by rw [h2]; exact below_drewN (Below.refl _ _) k⟩
    have K0 : Hid (∀ w', Below w11.heap.size w11 w' → Calls Tryd.prog 67 #[.slice (some ⟨g0, 0, none⟩) q0 (q0 + 9), .slice d0 q0 p0] w' fun e w'' => e = .returned (.bool true) ∧ Below w'.heap.size w' w'') := fun w' hb => HK0.out g0 w' (beyondD BA.out hb) (fun j hj => kc _ _ hb (R0'.out j hj))
    have K1 : Hid (∀ w', Below w11.heap.size w11 w' → Calls Tryd.prog 67 #[.slice (some ⟨g1, 0, none⟩) q1 (q1 + 9), .slice d1 q1 p1] w' fun e w'' => e = .returned (.bool true) ∧ Below w'.heap.size w' w'') := fun w' hb => HK1.out g1 w' (beyondD BA.out hb) (fun j hj => kc _ _ hb (R1'.out j hj))
    clear HV HK0 HK1 I0 I1 R0' R1' Q0 Q1
    go_wp2_with fail
    refine (C1.out _ (Below.refl _ _)).mono ?_
    rintro e w12 ⟨rfl, hb12⟩
    have x12 := kc _ _ hb12 x11
    have y12 := kc _ _ hb12 y11
    have S12 := hideD hb12
    clear C1 x11 y11 hb12
    have CE := hideD (pz_cells (PA.out.past S12.out))
    go_wp2_with fail
    refine CE.out.mono ?_
    rintro e w13 ⟨⟨vv, rfl, sl⟩, hb⟩
    have S13 := hideD (beyondD S12.out hb.out)
    have x13 := kc _ _ hb.out x12
    have y13 := kc _ _ hb.out y12
    have CF := hideD (rz_cells (QA.out.past S13.out))
    clear CE hb S12 x12 y12
    go_wp2_with fail
    refine CF.out.mono ?_
    rintro e w14 ⟨⟨vv', rfl, sl'⟩, hb⟩
    have S14 := hideD (beyondD S13.out hb.out)
    have x14 := kc _ _ hb.out x13
    have y14 := kc _ _ hb.out y13
    have SS := hideD (SC.out o2 vv vv' w14 L2.out (sl.out.past' hb.out) sl'.out)
    clear CF hb S13 x13 y13 sl sl'
    go_wp2_with fail
    refine SS.out.mono ?_
    rintro e w15 ⟨rfl, hb⟩
    have S15 := hideD (beyondD S14.out hb)
    have x15 := kc _ _ hb x14
    have y15 := kc _ _ hb y14
    clear SS hb S14 x14 y14
    have CE := hideD (pz_cells (PC.out.past S15.out))
    go_wp2_with fail
    refine CE.out.mono ?_
    rintro e w16 ⟨⟨vv, rfl, sl⟩, hb⟩
    have S16 := hideD (beyondD S15.out hb.out)
    have x16 := kc _ _ hb.out x15
    have y16 := kc _ _ hb.out y15
    have CF := hideD (rz_cells (QC.out.past S16.out))
    clear CE hb S15 x15 y15
    go_wp2_with fail
    refine CF.out.mono ?_
    rintro e w17 ⟨⟨vv', rfl, sl'⟩, hb⟩
    have S17 := hideD (beyondD S16.out hb.out)
    have x17 := kc _ _ hb.out x16
    have y17 := kc _ _ hb.out y16
    have SS := hideD (SC.out o3 vv vv' w17 L3.out (sl.out.past' hb.out) sl'.out)
    clear CF hb S16 x16 y16 sl sl'
    go_wp2_with fail
    refine SS.out.mono ?_
    rintro e w18 ⟨rfl, hb⟩
    have S18 := hideD (beyondD S17.out hb)
    have x18 := kc _ _ hb x17
    have y18 := kc _ _ hb y17
    clear SS hb S17 x17 y17
    have KK := hideD (K0.out _ S18.out)
    go_wp2_with fail
    refine KK.out.mono ?_
    rintro e w19 ⟨rfl, hb⟩
    have S19 := hideD (beyondD S18.out hb)
    have x19 := kc _ _ hb x18
    have y19 := kc _ _ hb y18
    clear KK hb S18 x18 y18
    have KK := hideD (K1.out _ S19.out)
    go_wp2_with fail
    refine KK.out.mono ?_
    rintro e w20 ⟨rfl, hb⟩
    have S20 := hideD (beyondD S19.out hb)
    have x20 := kc _ _ hb x19
    have y20 := kc _ _ hb y19
    clear KK hb S19 x19 y19
    have CE := hideD (pz_cells (PZ0.out.past S20.out))
    go_wp2_with fail
    refine CE.out.mono ?_
    rintro e w21 ⟨⟨vv, rfl, sl⟩, hb⟩
    have S21 := hideD (beyondD S20.out hb.out)
    have x21 := kc _ _ hb.out x20
    have y21 := kc _ _ hb.out y20
    have CF := hideD (rz_cells (QZ0.out.past S21.out))
    clear CE hb S20 x20 y20
    go_wp2_with fail
    refine CF.out.mono ?_
    rintro e w22 ⟨⟨vv', rfl, sl'⟩, hb⟩
    have S22 := hideD (beyondD S21.out hb.out)
    have x22 := kc _ _ hb.out x21
    have y22 := kc _ _ hb.out y21
    have SS := hideD (SC.out o vv vv' w22 L0.out (sl.out.past' hb.out) sl'.out)
    clear CF hb S21 x21 y21 sl sl'
    go_wp2_with fail
    refine SS.out.mono ?_
    rintro e w23 ⟨rfl, hb⟩
    have S23 := hideD (beyondD S22.out hb)
    have x23 := kc _ _ hb x22
    have y23 := kc _ _ hb y22
    clear SS hb S22 x22 y22
    have BF := hideD (beyondD BA.out S23.out)
    go_wp2_with fail
    go_ret
    exact ⟨by simp, BF.out⟩
end Go.Proofs.YtfffcmelkdmjaaaDoor
