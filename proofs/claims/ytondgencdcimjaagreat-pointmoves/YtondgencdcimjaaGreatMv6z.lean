/-
  The walk of PointMoves.
-/
import Derived.Test.YtondgencdcimjaaGreatMv5z
namespace Go.Proofs.YtondgencdcimjaaGreat
open Go.RowKit Go.Shelf Go.ChangeShapes Go.WideShapes Go.ChangeAt
set_option linter.unusedVariables false
set_option maxRecDepth 100000
/-- Two lists that lie apart, each of its length. -/
theorem two_alone2 {w9 : World} {base Bk q1 q2 cap1 cap2 : Nat} {a1 a2 : Option Addr} {rv : Value} (q8 : q1 ≤ 8) (q9 : q2 ≤ 8) (hbase : base ≤ w9.heap.size) (hB : BookAt w9 Bk rv) (ho : w9.ownsRow (Bk + 1) 22 1 rv 2 [.slice a1 q1 cap1, .slice a2 q2 cap2]) (n1 : NewAt w9 base a1 q1 cap1) (n2 : NewAt w9 base a2 q2 cap2)
    (l1 : ∀ b, (Value.slice a1 q1 cap1).ownBlock = some b → b < Bk) (l2 : ∀ b, (Value.slice a2 q2 cap2).ownBlock = some b → b < Bk) (ne : ∀ b, (Value.slice a1 q1 cap1).ownBlock = some b → (Value.slice a2 q2 cap2).ownBlock ≠ some b) (hk : base ≤ Bk) :
    Calls Tryz.prog 19 #[.pointer (some ⟨Bk, 0, none⟩)] w9 fun e w' => e = .returned (.bool true) ∧ Below base w9 w' := by
  let V : Nat → Value := fun i => if i = 0 then .slice a1 q1 cap1 else .slice a2 q2 cap2
  let ln : Nat → Nat := fun i => if i = 0 then q1 else q2
  have hL : Lists base 2 V ln (fun h => if (Value.slice a1 q1 cap1).ownBlock = some h then 0 else 1) := ⟨fun j h hj e => by
    by_cases j0 : j = 0
    · subst j0
      have e : (Value.slice a1 q1 cap1).ownBlock = some h := e
      show (if _ then 0 else 1) = 0
      rw [if_pos e]
    · have j1 : j = 1 := by omega
      subst j1
      have e : (Value.slice a2 q2 cap2).ownBlock = some h := e
      show (if _ then 0 else 1) = 1
      rw [if_neg (fun e1 => ne h e1 e)], fun j hj => by
    show ((if j = 0 then q1 else q2) + 20) * 16 ≤ _
    split <;> omega, by decide⟩
  have hV : ∀ i, i < 2 → ([.slice a1 q1 cap1, .slice a2 q2 cap2] : List Value)[i]? = some (V i) := fun i hi => by
    match i, hi with
    | 0, _ => rfl
    | 1, _ => rfl
  have lt : ∀ j h, j < 2 → (V j).ownBlock = some h → h < Bk := fun j h hj e => by
    match j, hj with
    | 0, _ => exact l1 h e
    | 1, _ => exact l2 h e
  have own : ∀ j, j < 2 → ∃ xs, OwnR w9 base (V j) (ln j) xs := fun j hj => by
    match j, hj with
    | 0, _ => exact n1
    | 1, _ => exact n2
  refine (alone_any base 2 Bk V ln _ rv _ w9 hL hbase hB ho hV lt own).mono ?_
  rintro e w' ⟨rfl, kp⟩
  refine ⟨rfl, kp.toBelow hbase (fun k hs => ?_)⟩
  rcases hs with ⟨j, hj, e⟩ | rfl
  · obtain ⟨xs, hx⟩ := own j hj
    exact (hx.lt k e).1
  · exact hk
theorem waitT_q (L : Rats) (n d : Int) : (waitT L n d).1.q ≤ 8 := by
  unfold waitT
  split
  · rename_i h
    have := (rightL_at (Bool.and_eq_true_iff.1 h).1).1
    split
    · exact this
    · decide
  · decide
theorem setT_q (L : Rats) (c x : Int) : (setT L c x).1.q ≤ 8 := by
  unfold setT
  split
  · rename_i h
    have := (rightL_at h).1
    split
    · split
      · exact this
      · decide
    · decide
  · decide
set_option maxHeartbeats 8000000 in
theorem pointMoves.walk (v g : Value) (L : Rats) (dn dd ck nn : Int) (G : Guas) (w : World) (hR : RatS w v L) (wR : ∀ k, k < L.q → (Lit.int .i64 (L.n k)).wf = true ∧ (Lit.int .i64 (L.d k)).wf = true) (hbR : L.q * 16 ≤ 140737488355328) (wd : (Lit.int .i64 dn).wf = true) (we : (Lit.int .i64 dd).wf = true) (wc : (Lit.int .i64 ck).wf = true) (wn : (Lit.int .i64 nn).wf = true) (hG : ∃ ad cap, g = .slice ad G.q cap ∧ GuaV w ad G) (hk : ∀ k, k < G.q → 0 ≤ G.k k ∧ G.k k < 256) (hbG : G.q * 32 ≤ 140737488355328) :
    Calls Tryz.prog 3 #[.agg #[v, .int .i64 dn, .int .i64 dd, .int .i64 ck, .int .i64 nn, g]] w fun e w' => e = .returned (.bool true) ∧ Below w.heap.size w w' := by
  obtain ⟨ad, cap, rfl, hnil, hV⟩ := hR
  obtain ⟨adg, capg, rfl, hGV⟩ := hG
  have hI : RatI L := fun k hk => ⟨bounds_i64 (wR k hk).1, bounds_i64 (wR k hk).2⟩
  have id := bounds_i64 wd
  have ie := bounds_i64 we
  have ic := bounds_i64 wc
  have Ba := single w (.cells #[.slice ad L.q cap, .int .i64 dn, .int .i64 dd, .int .i64 ck, .int .i64 nn, .slice adg G.q capg] 27)
  have HH := hideD (fun W (hb : Below w.heap.size w W) => hand_any ad cap L W (hV.later hb) hbR)
  have HHG := hideD (fun W (hb : Below w.heap.size w W) => hand_guas adg capg G W (hGV.past hb) hbG)
  have HRW := hideD (fun W (hb : Below w.heap.size w W) => (rwait_any ad L.q cap L dn dd W rfl (by omega) (hV.later hb) hI id ie).mono fun e w' ⟨h, hb⟩ => (⟨wait_tells h, hb⟩ : Tells (waitT L dn dd).1 (waitT L dn dd).2 W w' e ∧ Below W.heap.size W w'))
  have HRS := hideD (fun W (hb : Below w.heap.size w W) => rset_any ad L.q cap L ck nn W rfl (by omega) (hV.later hb) hI ic)
  have HRH := hideD (fun W (hb : Below w.heap.size w W) => rholds_any ad adg L.q cap G.q capg L G W rfl (by omega) (hV.later hb) hI rfl (by omega) (hGV.past hb) hk)
  have HV := hideD hV
  have HGV := hideD hGV
  have HPW := hideD (fun g W (hv : RatV W (some ⟨g, 0, none⟩) L) => (waitP_any (some ⟨g, 0, none⟩) L.q (L.q + 9) L dn dd W rfl (by omega) hv hI id ie).mono fun e w' ⟨h, hb⟩ => (⟨wait_tells h, hb⟩ : Tells (waitT L dn dd).1 (waitT L dn dd).2 W w' e ∧ Below W.heap.size W w'))
  have HPS := hideD (fun g W (hv : RatV W (some ⟨g, 0, none⟩) L) => pset_any (some ⟨g, 0, none⟩) L.q (L.q + 9) L ck nn W rfl (by omega) hv hI ic)
  have HPH := hideD (fun g h W (hv : RatV W (some ⟨g, 0, none⟩) L) (hg : GuaV W (some ⟨h, 0, none⟩) G) => pholds_any (some ⟨g, 0, none⟩) (some ⟨h, 0, none⟩) L.q (L.q + 9) G.q (G.q + 9) L G W rfl (by omega) (fun e => by cases e) hv hI rfl (by omega) hg hk)
  have qw := waitT_q L dn dd
  have qs := setT_q L ck nn
  have H0 := hideD (fun W => plive_any W)
  have hq2 := hideD hbR
  have hg2 := hideD hbG
  have c0 : (w.alloc (.cells #[.slice ad L.q cap, .int .i64 dn, .int .i64 dd, .int .i64 ck, .int .i64 nn, .slice adg G.q capg] 27)).cell? ⟨w.heap.size, 0, none⟩ = some (.slice ad L.q cap) := by simp [go_sem]
  have c1 : (w.alloc (.cells #[.slice ad L.q cap, .int .i64 dn, .int .i64 dd, .int .i64 ck, .int .i64 nn, .slice adg G.q capg] 27)).cell? ⟨w.heap.size, 1, none⟩ = some (.int .i64 dn) := by simp [go_sem]
  have c2 : (w.alloc (.cells #[.slice ad L.q cap, .int .i64 dn, .int .i64 dd, .int .i64 ck, .int .i64 nn, .slice adg G.q capg] 27)).cell? ⟨w.heap.size, 2, none⟩ = some (.int .i64 dd) := by simp [go_sem]
  have c3 : (w.alloc (.cells #[.slice ad L.q cap, .int .i64 dn, .int .i64 dd, .int .i64 ck, .int .i64 nn, .slice adg G.q capg] 27)).cell? ⟨w.heap.size, 3, none⟩ = some (.int .i64 ck) := by simp [go_sem]
  have c4 : (w.alloc (.cells #[.slice ad L.q cap, .int .i64 dn, .int .i64 dd, .int .i64 ck, .int .i64 nn, .slice adg G.q capg] 27)).cell? ⟨w.heap.size, 4, none⟩ = some (.int .i64 nn) := by simp [go_sem]
  have c5 : (w.alloc (.cells #[.slice ad L.q cap, .int .i64 dn, .int .i64 dd, .int .i64 ck, .int .i64 nn, .slice adg G.q capg] 27)).cell? ⟨w.heap.size, 5, none⟩ = some (.slice adg G.q capg) := by simp [go_sem]
  generalize waitT L dn dd = wt at *
  generalize setT L ck nn = st at *
  generalize holdsT6 L G = ht at *
  obtain ⟨wl, wer⟩ := wt
  obtain ⟨sl, ser⟩ := st
  obtain ⟨htb, hte⟩ := ht
  dsimp only at qw qs HRW HRS HRH HPW HPS HPH
  have HBa := hideD Ba
  clear hnil hV hGV hI id ie ic wd we wc wn hk hbR hbG wR Ba
  go_enter Tryz.func3, Tryz.ntmps3
  go_wp2_with fail
  have Bm := HBa.out
  generalize w.alloc (.cells #[.slice ad L.q cap, .int .i64 dn, .int .i64 dd, .int .i64 ck, .int .i64 nn, .slice adg G.q capg] 27) = W0 at *
  obtain ⟨bm, hbm⟩ : ∃ bm, bm = w.heap.size := ⟨_, rfl⟩
  rw [← hbm] at c0 c1 c2 c3 c4 c5 ⊢
  clear hbm
  have H1 := hideD (HH.out W0 Bm)
  have B0 := hideD Bm
  clear Bm HBa HH
  refine H1.out.mono ?_
  rintro e w1 ⟨rfl, hv1, lt1, hb⟩
  have c0 := kc _ _ hb c0
  have c1 := kc _ _ hb c1
  have c2 := kc _ _ hb c2
  have c3 := kc _ _ hb c3
  have c4 := kc _ _ hb c4
  have c5 := kc _ _ hb c5
  have B1 := hideD (beyondD B0.out hb)
  have V1 := hideD hv1
  have K1 := hideD c0
  have H2 := hideD (HPW.out W0.heap.size w1 (roomy_of hv1))
  clear hb hv1 H1 HPW
  generalize W0.heap.size = ow at *
  go_wp2_with fail
  refine H2.out.mono ?_
  rintro e w2 ⟨⟨aa, ca, rfl, -, va, na⟩, hb⟩
  have c0 := kc _ _ hb c0
  have c1 := kc _ _ hb c1
  have c2 := kc _ _ hb c2
  have c3 := kc _ _ hb c3
  have c4 := kc _ _ hb c4
  have c5 := kc _ _ hb c5
  have B2 := hideD (beyondD B1.out hb)
  have VA := hideD va
  have NA := hideD na
  have V2 := hideD (V1.out.later hb)
  have U2 := hideD hb
  have H3 := hideD (HRW.out w2 B2.out)
  clear hb H2 HRW va na
  go_wp2_with fail
  refine H3.out.mono ?_
  rintro e w3 ⟨⟨ab, cb, rfl, -, vb, -⟩, hb⟩
  have c0 := kc _ _ hb c0
  have c1 := kc _ _ hb c1
  have c2 := kc _ _ hb c2
  have c3 := kc _ _ hb c3
  have c4 := kc _ _ hb c4
  have c5 := kc _ _ hb c5
  have B3 := hideD (beyondD B2.out hb)
  have VA := hideD (VA.out.later hb)
  have NA := hideD (NA.out.past hb)
  have VB := hideD vb
  have V3 := hideD (V2.out.later hb)
  have U3 := hideD (beyondD U2.out hb)
  have H4 := hideD (HPS.out ow w3 (roomy_of V3.out))
  clear hb H3 HPS vb V2 U2
  go_wp2_with fail
  refine H4.out.mono ?_
  rintro e w4 ⟨⟨ac, cc, rfl, -, vc, nc⟩, hb⟩
  have c0 := kc _ _ hb c0
  have c1 := kc _ _ hb c1
  have c2 := kc _ _ hb c2
  have c3 := kc _ _ hb c3
  have c4 := kc _ _ hb c4
  have c5 := kc _ _ hb c5
  have B4 := hideD (beyondD B3.out hb)
  have VA := hideD (VA.out.later hb)
  have ne : Hid (∀ b, (Value.slice aa wl.q ca).ownBlock = some b → (Value.slice ac sl.q cc).ownBlock ≠ some b) := fun b e1 e2 => by
    have x1 := (NA.out.lt b e1).2
    have x2 := (nc.lt b e2).1
    omega
  have NA := hideD (NA.out.past hb)
  have VB := hideD (VB.out.later hb)
  have VC := hideD vc
  have NC := hideD (nc.mono U3.out.size)
  have V4 := hideD (V3.out.later hb)
  have U4 := hideD (beyondD U3.out hb)
  have H5 := hideD (HRS.out w4 B4.out)
  clear hb H4 HRS vc nc V3 U3
  go_wp2_with fail
  refine H5.out.mono ?_
  rintro e w5 ⟨⟨ade, ce, rfl, -, vd, -⟩, hb⟩
  have c0 := kc _ _ hb c0
  have c1 := kc _ _ hb c1
  have c2 := kc _ _ hb c2
  have c3 := kc _ _ hb c3
  have c4 := kc _ _ hb c4
  have c5 := kc _ _ hb c5
  have B5 := hideD (beyondD B4.out hb)
  have VA := hideD (VA.out.later hb)
  have NA := hideD (NA.out.past hb)
  have VB := hideD (VB.out.later hb)
  have VC := hideD (VC.out.later hb)
  have NC := hideD (NC.out.past hb)
  have VD := hideD vd
  have V5 := hideD (V4.out.later hb)
  have U5 := hideD (beyondD U4.out hb)
  have H6 := hideD (HHG.out w5 B5.out)
  clear hb H5 HHG vd V4 U4
  go_wp2_with fail
  refine H6.out.mono ?_
  rintro e w6 ⟨rfl, hg6, lt6, hb⟩
  have c0 := kc _ _ hb c0
  have c1 := kc _ _ hb c1
  have c2 := kc _ _ hb c2
  have c3 := kc _ _ hb c3
  have c4 := kc _ _ hb c4
  have c5 := kc _ _ hb c5
  have B6 := hideD (beyondD B5.out hb)
  have VA := hideD (VA.out.later hb)
  have NA := hideD (NA.out.past hb)
  have VB := hideD (VB.out.later hb)
  have VC := hideD (VC.out.later hb)
  have NC := hideD (NC.out.past hb)
  have VD := hideD (VD.out.later hb)
  have V6 := hideD (V5.out.later hb)
  have U6 := hideD (beyondD U5.out hb)
  have G6 := hideD hg6
  have H7 := hideD (HPH.out ow w5.heap.size w6 (roomy_of V6.out) (roomyG_front hg6))
  clear hb H6 HPH hg6 V5 U5
  generalize w5.heap.size = og at *
  go_wp2_with fail
  refine H7.out.mono ?_
  rintro e w7 ⟨rfl, hb⟩
  have c0 := kc _ _ hb c0
  have c1 := kc _ _ hb c1
  have c2 := kc _ _ hb c2
  have c3 := kc _ _ hb c3
  have c4 := kc _ _ hb c4
  have c5 := kc _ _ hb c5
  have B7 := hideD (beyondD B6.out hb)
  have VA := hideD (VA.out.later hb)
  have NA := hideD (NA.out.past hb)
  have VB := hideD (VB.out.later hb)
  have VC := hideD (VC.out.later hb)
  have NC := hideD (NC.out.past hb)
  have VD := hideD (VD.out.later hb)
  have V7 := hideD (V6.out.later hb)
  have U7 := hideD (beyondD U6.out hb)
  have G7 := hideD (G6.out.past hb)
  have H8 := hideD (HRH.out w7 B7.out)
  clear hb H7 HRH V6 U6 G6
  go_wp2_with fail
  refine H8.out.mono ?_
  rintro e w8 ⟨rfl, hb⟩
  have c0 := kc _ _ hb c0
  have c1 := kc _ _ hb c1
  have c2 := kc _ _ hb c2
  have c3 := kc _ _ hb c3
  have c4 := kc _ _ hb c4
  have c5 := kc _ _ hb c5
  have B8 := hideD (beyondD B7.out hb)
  have VA := hideD (VA.out.later hb)
  have NA := hideD (NA.out.past hb)
  have VB := hideD (VB.out.later hb)
  have VC := hideD (VC.out.later hb)
  have NC := hideD (NC.out.past hb)
  have VD := hideD (VD.out.later hb)
  have V8 := hideD (V7.out.later hb)
  have U8 := hideD (beyondD U7.out hb)
  have G8 := hideD (G7.out.past hb)
  clear hb H8 V7 U7 G7
  have e1 : (wer != wer) = false := by simp
  have e2 : (ser != ser) = false := by simp
  have e3 : (htb != htb) = false := by simp
  have e4 : (hte != hte) = false := by simp
  go_wp2_with fail
  refine (H0.out _).mono ?_
  rintro e w9 ⟨rfl, hb⟩
  have c0 := kc _ _ hb c0
  have c1 := kc _ _ hb c1
  have c2 := kc _ _ hb c2
  have c3 := kc _ _ hb c3
  have c4 := kc _ _ hb c4
  have c5 := kc _ _ hb c5
  have B9 := hideD (beyondD B8.out hb)
  have VA := hideD (VA.out.later hb)
  have NA := hideD (NA.out.past hb)
  have VB := hideD (VB.out.later hb)
  have VC := hideD (VC.out.later hb)
  have NC := hideD (NC.out.past hb)
  have VD := hideD (VD.out.later hb)
  have V9 := hideD (V8.out.later hb)
  have U9 := hideD (beyondD U8.out hb)
  have G9 := hideD (G8.out.past hb)
  have H9 := hideD (same_rats aa ab ca cb wl w9 VA.out VB.out (by omega))
  clear hb H0 V8 U8 G8 VA VB
  go_wp2_with fail
  refine H9.out.mono ?_
  rintro e w10 ⟨rfl, hb⟩
  have c0 := kc _ _ hb c0
  have c1 := kc _ _ hb c1
  have c2 := kc _ _ hb c2
  have c3 := kc _ _ hb c3
  have c4 := kc _ _ hb c4
  have c5 := kc _ _ hb c5
  have B10 := hideD (beyondD B9.out hb)
  have NA := hideD (NA.out.past hb)
  have VC := hideD (VC.out.later hb)
  have NC := hideD (NC.out.past hb)
  have VD := hideD (VD.out.later hb)
  have V10 := hideD (V9.out.later hb)
  have U10 := hideD (beyondD U9.out hb)
  have G10 := hideD (G9.out.past hb)
  have H10 := hideD (same_rats ac ade cc ce sl w10 VC.out VD.out (by omega))
  clear hb H9 V9 U9 G9 VC VD
  go_wp2_with fail
  refine H10.out.mono ?_
  rintro e w11 ⟨rfl, hb⟩
  have c0 := kc _ _ hb c0
  have c1 := kc _ _ hb c1
  have c2 := kc _ _ hb c2
  have c3 := kc _ _ hb c3
  have c4 := kc _ _ hb c4
  have c5 := kc _ _ hb c5
  have B11 := hideD (beyondD B10.out hb)
  have NA := hideD (NA.out.past hb)
  have NC := hideD (NC.out.past hb)
  have V11 := hideD (V10.out.later hb)
  have U11 := hideD (beyondD U10.out hb)
  have G11 := hideD (G10.out.past hb)
  have H11 := hideD (kept_rats ow ad cap L w11 V11.out (HV.out.later B11.out) hq2.out)
  clear hb H10 V10 U10 G10
  go_wp2_with fail
  refine H11.out.mono ?_
  rintro e w12 ⟨rfl, hb⟩
  have c0 := kc _ _ hb c0
  have c1 := kc _ _ hb c1
  have c2 := kc _ _ hb c2
  have c3 := kc _ _ hb c3
  have c4 := kc _ _ hb c4
  have c5 := kc _ _ hb c5
  have B12 := hideD (beyondD B11.out hb)
  have NA := hideD (NA.out.past hb)
  have NC := hideD (NC.out.past hb)
  have V12 := hideD (V11.out.later hb)
  have U12 := hideD (beyondD U11.out hb)
  have H12 := hideD (kept_guas og adg capg G w12 (G11.out.past hb) (HGV.out.past B12.out) hg2.out)
  clear hb H11 V11 U11 G11
  go_wp2_with fail
  refine H12.out.mono ?_
  rintro e w13 ⟨rfl, hb⟩
  have c0 := kc _ _ hb c0
  have c1 := kc _ _ hb c1
  have c2 := kc _ _ hb c2
  have c3 := kc _ _ hb c3
  have c4 := kc _ _ hb c4
  have c5 := kc _ _ hb c5
  have B13 := hideD (beyondD B12.out hb)
  have NA := hideD (NA.out.past hb)
  have NC := hideD (NC.out.past hb)
  have V13 := hideD (V12.out.later hb)
  have U13 := hideD (beyondD U12.out hb)
  have Bk := hideD (book_new w13)
  have Bx := hideD (single w13 (.cells #[.slice none 0 0, .slice none 0 0, .slice none 0 0, .slice none 0 0, .slice none 0 0, .slice none 0 0, .slice none 0 0, .slice none 0 0, .slice none 0 0, .slice none 0 0, .slice none 0 0, .slice none 0 0, .slice none 0 0, .slice none 0 0] 56))
  clear hb H12 V12 U12 e1 e2 e3 e4
  go_wp2_with fail
  generalize w13.alloc (.cells #[.slice none 0 0, .slice none 0 0, .slice none 0 0, .slice none 0 0, .slice none 0 0, .slice none 0 0, .slice none 0 0, .slice none 0 0, .slice none 0 0, .slice none 0 0, .slice none 0 0, .slice none 0 0, .slice none 0 0, .slice none 0 0] 56) = W7 at *
  have H7 := hideD (takeRats_any w13.heap.size 0 wl.q ca (.slice none 0 0) aa [] W7 Bk.out (World.ownsRow_nil _ _ _ _) (by omega))
  refine H7.out.mono ?_
  rintro x w14 ⟨⟨x', rfl⟩, rv8, hB8, ho8, hb8⟩
  have H8 := hideD (takeRats_any w13.heap.size 1 sl.q cc rv8 ac [.slice aa wl.q ca] w14 hB8 ho8 (by omega))
  have U8 := hideD hb8
  clear H7 hB8 ho8 hb8 Bk
  go_wp2_with fail
  refine H8.out.mono ?_
  rintro x w15 ⟨⟨x'', rfl⟩, rv9, hB9, ho9, hb9⟩
  have l1 : ∀ b, (Value.slice aa wl.q ca).ownBlock = some b → b < w13.heap.size := fun b e => (NA.out.lt b e).2
  have l3 : ∀ b, (Value.slice ac sl.q cc).ownBlock = some b → b < w13.heap.size := fun b e => (NC.out.lt b e).2
  have T15 : Below w13.heap.size w13 w15 := (Bx.out.trans U8.out).trans hb9
  have Z15 := hideD (beyondD U13.out T15)
  have C15 : Hid (w15.cell? ⟨bm, 0, none⟩ = some (.slice ad L.q cap)) := kc _ _ T15 c0
  have H9 := hideD (two_alone2 (base := w1.heap.size) qw qs Z15.out.size hB9 ho9 (NA.out.under T15 l1) (NC.out.under T15 l3) l1 l3 ne.out U13.out.size)
  clear H8 hB9 ho9 hb9 l1 l3 T15 U8 Bx NA NC ne c0 c1 c2 c3 c4 c5
  go_wp2_with fail
  refine H9.out.mono ?_
  rintro x w16 ⟨rfl, hb⟩
  have Z16 := hideD (Z15.out.trans hb)
  have V16 := hideD (V1.out.later Z16.out)
  have B16 := hideD (beyondD B1.out Z16.out)
  have c16 : w16.cell? ⟨bm, 0, none⟩ = some (.slice ad L.q cap) := by
    have h0 := K1
    exact kc _ _ Z16.out h0.out
  have HL := hideD (kept_rats ow ad cap L w16 V16.out (HV.out.later B16.out) hq2.out)
  clear hb H9 Z15
  go_wp2_with fail
  refine HL.out.mono ?_
  rintro e w17 ⟨rfl, hb⟩
  have B17 := hideD (beyondD B16.out hb)
  clear hb HL
  go_wp2_with fail
  go_ret
  exact ⟨rfl, B17.out⟩
end Go.Proofs.YtondgencdcimjaaGreat
