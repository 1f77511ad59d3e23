/-
  The document's Value and Holds; the walk of ExprValues.
-/
import Derived.Test.YtmnhbokiibaopaaDoorRd8
import Derived.Test.YtmnhbokiibaopaaDoorRe8
namespace Go.Proofs.YtmnhbokiibaopaaDoor
open Go.RowKit
set_option linter.unusedVariables false
theorem valAt_zero {vs : List Int} {l : List Node} {t : Nat} {k : Int} (h : kindL k l = some t) : valAt vs l 0 = valL vs l := by
  obtain ⟨_, hs⟩ := kindL_stk h
  obtain ⟨s', e, hl⟩ := stk_total (valueJ vs) l [t] hs
  match s', hl with
  | [u], _ =>
    have h1 : valAt vs l 0 = u := head_of (s := []) (by simpa using e)
    rw [h1]
    unfold valL
    rw [fold_one _ l u e]
    rfl
theorem kind_root {l : List Node} {t : Nat} {k : Int} (h : kindL k l = some t) : (t = 1 ∧ isTr l = false) ∨ (t = 2 ∧ isTr l = true) := by
  obtain ⟨_, hs⟩ := kindL_stk h
  obtain ⟨rs, hr, hm⟩ := kind_roots l [t] hs
  match rs, hm with
  | [r], hm =>
    obtain ⟨L', rfl⟩ := root_head hr
    have ht : t = (opR r.1).2.2.1 := by simpa [kd] using hm
    have hn := kind_nodes _ _ hs r List.mem_cons_self
    have kt := kind_truth r.1
    have t12 : ∀ o : Nat, o < 15 → (opR o).2.2.1 ≠ 0 → (opR o).2.2.1 = 1 ∨ (opR o).2.2.1 = 2 := by decide
    have hi := ok_in hn
    show (t = 1 ∧ truthO r.1 = false) ∨ (t = 2 ∧ truthO r.1 = true)
    rw [← kt, ht]
    rcases t12 r.1 (by omega) hn.1 with q | q <;> rw [q] <;> simp
set_option maxRecDepth 100000 in
set_option maxHeartbeats 1000000 in
theorem rval_any (ad : Option Addr) (cap : Nat) (l : List Node) (va : Option Addr) (vc : Nat) (vs : List Int) (w : World) (hV : RowV w ad (l.flatMap NodeC)) (hI : ∀ n ∈ l, n.1 < 256) (hl : l.length * 16 ≤ 140737488355328) (hv : RowV w va (vs.flatMap IntC)) (hvs : ∀ v ∈ vs, inR v) :
    Calls Tryd.prog 20 #[.slice ad l.length cap, .slice va vs.length vc] w fun e w' => e = .returned (.tuple #[.int .i64 (worthT 1 vs l).1, .int .i64 (worthT 1 vs l).2]) ∧ Below w.heap.size w w' := by
  have RG := hideR (rright_any ad cap l (vs.length : Int) w hV hI hl)
  have IT : Hid (∀ W, Below w.heap.size w W → Calls Tryd.prog 16 #[.slice ad l.length cap] W fun e w' => e = .returned (.bool (isTr l)) ∧ Below W.heap.size W w') := fun W hb => ristruth_any ad cap l W (hV.later hb)
  unfold rightE at RG
  cases hk : kindL (vs.length : Int) l with
  | none =>
    have PT : Hid (worthT 1 vs l = (0, 121)) := by
      show _ = _
      unfold worthT
      rw [hk, if_neg (by simp)]
    rw [hk] at RG
    clear hV hI hl hv hvs hk IT
    generalize vs.length = m at *
    generalize l.length = n at *
    go_enter Tryd.func20, Tryd.ntmps20
    go_wp2_with fail
    refine RG.out.mono ?_
    rintro e w1 ⟨rfl, hb⟩
    have B1 := hideR hb
    clear hb RG
    go_wp2_with fail
    exact bodyPost_ret (v := .tuple #[.int .i64 0, .int .i64 121]) (by simp [results, Tryd.results20, go_sem]) rfl ⟨by rw [PT.out], B1.out⟩
  | some t =>
    have h0 : 0 < l.length := by
      cases l with
      | nil => cases hk
      | cons a r => simp
    have TX : Hid (∀ W, Below w.heap.size w W → Calls Tryd.prog 44 #[.slice ad l.length cap, .int .i64 0, .slice va vs.length vc] W fun e w' => AnsW e (valL vs l) ∧ Below W.heap.size W w') := fun W hb => by
      have := rvalue_any ad cap l va vc vs w hV hI hv hvs hk l.length 0 (by omega) h0 W hb
      rw [valAt_zero hk] at this
      exact this
    rw [hk] at RG
    rcases kind_root hk with ⟨rfl, hT⟩ | ⟨rfl, hT⟩
    · have PT : Hid (worthT 1 vs l = if (valL vs l).2 = true then (0, 20) else ((valL vs l).1, 0)) := by
        show _ = _
        unfold worthT
        rw [if_pos hk]
      rw [hT] at IT
      clear hV hI hl hv hvs hk h0 hT
      generalize worthT 1 vs l = R at *
      generalize valL vs l = u at *
      generalize vs.length = m at *
      generalize l.length = n at *
      obtain ⟨x, xn⟩ := u
      go_enter Tryd.func20, Tryd.ntmps20
      go_wp2_with fail
      refine RG.out.mono ?_
      rintro e w1 ⟨rfl, hb⟩
      have B1 := hideR hb
      clear hb RG
      go_wp2_with fail
      refine (IT.out _ B1.out).mono ?_
      rintro e w2 ⟨rfl, hb⟩
      have B2 := hideR (beyond B1.out hb)
      clear hb IT B1
      go_wp2_with fail
      refine (TX.out _ B2.out).mono ?_
      rintro e w3 ⟨⟨v, ok, rfl, q1, q2⟩, hb⟩
      have B3 := hideR (beyond B2.out hb)
      clear hb TX B2
      cases xn with
      | true =>
        have q3 : ok = false := q1
        subst q3
        clear q1 q2
        go_wp2_with fail
        exact bodyPost_ret (v := .tuple #[.int .i64 0, .int .i64 20]) (by simp [results, Tryd.results20, go_sem]) rfl ⟨by rw [PT.out]; rfl, B3.out⟩
      | false =>
        have q3 : ok = true := q1
        subst q3
        have q4 := q2 rfl
        subst q4
        clear q1 q2
        go_wp2_with fail
        exact bodyPost_ret (v := .tuple #[.int .i64 v, .int .i64 0]) (by simp [results, Tryd.results20, go_sem]) rfl ⟨by rw [PT.out]; rfl, B3.out⟩
    · have PT : Hid (worthT 1 vs l = (0, 121)) := by
        show _ = _
        unfold worthT
        rw [hk, if_neg (by decide)]
      rw [hT] at IT
      clear hV hI hl hv hvs hk h0 hT TX
      generalize vs.length = m at *
      generalize l.length = n at *
      go_enter Tryd.func20, Tryd.ntmps20
      go_wp2_with fail
      refine RG.out.mono ?_
      rintro e w1 ⟨rfl, hb⟩
      have B1 := hideR hb
      clear hb RG
      go_wp2_with fail
      refine (IT.out _ B1.out).mono ?_
      rintro e w2 ⟨rfl, hb⟩
      have B2 := hideR (beyond B1.out hb)
      clear hb IT B1
      go_wp2_with fail
      exact bodyPost_ret (v := .tuple #[.int .i64 0, .int .i64 121]) (by simp [results, Tryd.results20, go_sem]) rfl ⟨by rw [PT.out], B2.out⟩
set_option maxRecDepth 100000 in
set_option maxHeartbeats 1000000 in
theorem rholds_any (ad : Option Addr) (cap : Nat) (l : List Node) (va : Option Addr) (vc : Nat) (vs : List Int) (w : World) (hV : RowV w ad (l.flatMap NodeC)) (hI : ∀ n ∈ l, n.1 < 256) (hl : l.length * 16 ≤ 140737488355328) (hv : RowV w va (vs.flatMap IntC)) (hvs : ∀ v ∈ vs, inR v) :
    Calls Tryd.prog 22 #[.slice ad l.length cap, .slice va vs.length vc] w fun e w' => e = .returned (.tuple #[.bool (holdsT vs l).1, .int .i64 (holdsT vs l).2]) ∧ Below w.heap.size w w' := by
  by_cases c0 : l.length = 0
  · have PT : Hid (holdsT vs l = (true, 0)) := if_pos c0
    clear hV hI hl hv hvs
    rw [c0]
    generalize vs.length = m at *
    go_enter Tryd.func22, Tryd.ntmps22
    go_wp2_with fail
    exact bodyPost_ret (v := .tuple #[.bool true, .int .i64 0]) (by simp [results, Tryd.results22, go_sem]) rfl ⟨by rw [PT.out], Below.refl _ _⟩
  have d0 : ¬ (l.length : Int) = 0 := by omega
  have d1 : ((l.length : Int) == 0) = false := by simpa using d0
  have HT : holdsT vs l = ((worthT 2 vs l).1 == 1, (worthT 2 vs l).2) := if_neg c0
  have RG := hideR (rright_any ad cap l (vs.length : Int) w hV hI hl)
  have IT : Hid (∀ W, Below w.heap.size w W → Calls Tryd.prog 16 #[.slice ad l.length cap] W fun e w' => e = .returned (.bool (isTr l)) ∧ Below W.heap.size W w') := fun W hb => ristruth_any ad cap l W (hV.later hb)
  unfold rightE at RG
  cases hk : kindL (vs.length : Int) l with
  | none =>
    have PT : Hid (holdsT vs l = (false, 121)) := by
      show _ = _
      rw [HT]
      unfold worthT
      rw [hk, if_neg (by simp)]
      rfl
    rw [hk] at RG
    clear hV hI hl hv hvs hk IT HT c0
    generalize vs.length = m at *
    generalize l.length = n at *
    go_enter Tryd.func22, Tryd.ntmps22
    go_wp2_with fail
    refine RG.out.mono ?_
    rintro e w1 ⟨rfl, hb⟩
    have B1 := hideR hb
    clear hb RG
    go_wp2_with fail
    exact bodyPost_ret (v := .tuple #[.bool false, .int .i64 121]) (by simp [results, Tryd.results22, go_sem]) rfl ⟨by rw [PT.out], B1.out⟩
  | some t =>
    have TX : Hid (∀ W, Below w.heap.size w W → Calls Tryd.prog 44 #[.slice ad l.length cap, .int .i64 0, .slice va vs.length vc] W fun e w' => AnsW e (valL vs l) ∧ Below W.heap.size W w') := fun W hb => by
      have := rvalue_any ad cap l va vc vs w hV hI hv hvs hk l.length 0 (by omega) (by omega) W hb
      rw [valAt_zero hk] at this
      exact this
    rw [hk] at RG
    rcases kind_root hk with ⟨rfl, hT⟩ | ⟨rfl, hT⟩
    · have PT : Hid (holdsT vs l = (false, 121)) := by
        show _ = _
        rw [HT]
        unfold worthT
        rw [hk, if_neg (by decide)]
        rfl
      rw [hT] at IT
      clear hV hI hl hv hvs hk hT TX HT c0
      generalize vs.length = m at *
      generalize l.length = n at *
      go_enter Tryd.func22, Tryd.ntmps22
      go_wp2_with fail
      refine RG.out.mono ?_
      rintro e w1 ⟨rfl, hb⟩
      have B1 := hideR hb
      clear hb RG
      go_wp2_with fail
      refine (IT.out _ B1.out).mono ?_
      rintro e w2 ⟨rfl, hb⟩
      have B2 := hideR (beyond B1.out hb)
      clear hb IT B1
      go_wp2_with fail
      exact bodyPost_ret (v := .tuple #[.bool false, .int .i64 121]) (by simp [results, Tryd.results22, go_sem]) rfl ⟨by rw [PT.out], B2.out⟩
    · have PT : Hid (holdsT vs l = if (valL vs l).2 = true then (false, 20) else ((valL vs l).1 == 1, 0)) := by
        show _ = _
        rw [HT]
        unfold worthT
        rw [if_pos hk]
        split <;> rfl
      rw [hT] at IT
      clear hV hI hl hv hvs hk hT HT c0
      generalize holdsT vs l = R at *
      generalize valL vs l = u at *
      generalize vs.length = m at *
      generalize l.length = n at *
      obtain ⟨x, xn⟩ := u
      go_enter Tryd.func22, Tryd.ntmps22
      go_wp2_with fail
      refine RG.out.mono ?_
      rintro e w1 ⟨rfl, hb⟩
      have B1 := hideR hb
      clear hb RG
      go_wp2_with fail
      refine (IT.out _ B1.out).mono ?_
      rintro e w2 ⟨rfl, hb⟩
      have B2 := hideR (beyond B1.out hb)
      clear hb IT B1
      go_wp2_with fail
      refine (TX.out _ B2.out).mono ?_
      rintro e w3 ⟨⟨v, ok, rfl, q1, q2⟩, hb⟩
      have B3 := hideR (beyond B2.out hb)
      clear hb TX B2
      cases xn with
      | true =>
        have q3 : ok = false := q1
        subst q3
        clear q1 q2
        go_wp2_with fail
        exact bodyPost_ret (v := .tuple #[.bool false, .int .i64 20]) (by simp [results, Tryd.results22, go_sem]) rfl ⟨by rw [PT.out]; rfl, B3.out⟩
      | false =>
        have q3 : ok = true := q1
        subst q3
        have q4 := q2 rfl
        subst q4
        clear q1 q2
        go_wp2_with fail
        exact bodyPost_ret (v := .tuple #[.bool (v == 1), .int .i64 0]) (by simp [results, Tryd.results22, go_sem]) rfl ⟨by rw [PT.out]; rfl, B3.out⟩
set_option maxRecDepth 100000 in
set_option maxHeartbeats 2000000 in
theorem exprValues.inner (ad : Option Addr) (ac : Nat) (a : List Node) (vd : Option Addr) (vc : Nat) (vs : List Int) (w : World) (hT : OpsT w) (hP : Pow w) (hA : RowV w ad (a.flatMap NodeC)) (hIa : ∀ n ∈ a, n.1 < 256) (la : a.length * 16 ≤ 140737488355328) (hV : RowV w vd (vs.flatMap IntC)) (hvs : ∀ v ∈ vs, inR v) (lv : vs.length * 8 ≤ 140737488355328) :
    Calls Tryd.prog 4 #[.slice ad a.length ac, .slice vd vs.length vc] w fun e w' => e = .returned (.bool true) ∧ Below w.heap.size w w' := by
  have HA := hideR (hand_nodes ad ac (ndsOf a) w (nds_row hA) la)
  have HI : Hid (∀ W, Below w.heap.size w W → Calls Tryd.prog 18 #[.slice vd vs.length vc] W fun e w' => e = .returned (.slice (some ⟨W.heap.size, 0, none⟩) vs.length (vs.length + 9)) ∧ IntsV w' (some ⟨W.heap.size, 0, none⟩) (roomyI (intsOf vs)) ∧ W.heap.size < w'.heap.size ∧ Below W.heap.size W w') := fun W hb => hand_ints vd vc (intsOf vs) W (ints_row (hV.later hb)) lv
  have LV : Hid (∀ W, Below w.heap.size w W → Calls Tryd.prog 10 #[] W fun e w' => e = .returned (.bool true) ∧ Below W.heap.size W w') := fun W hb => live_any W (ops_later hT hb) (pow_later hP hb)
  have V1 : Hid (∀ W od oc id ic, Below w.heap.size w W → RowV W od (a.flatMap NodeC) → RowV W id (vs.flatMap IntC) → Calls Tryd.prog 19 #[.slice od a.length oc, .slice id vs.length ic] W fun e w' => e = .returned (.tuple #[.int .i64 (worthT 1 vs a).1, .int .i64 (worthT 1 vs a).2]) ∧ Below W.heap.size W w') := fun W od oc id ic hb hr hq => value_any od oc a id ic vs W (ops_later hT hb) hr hIa hq hvs
  have V2 : Hid (∀ W, Below w.heap.size w W → Calls Tryd.prog 20 #[.slice ad a.length ac, .slice vd vs.length vc] W fun e w' => e = .returned (.tuple #[.int .i64 (worthT 1 vs a).1, .int .i64 (worthT 1 vs a).2]) ∧ Below W.heap.size W w') := fun W hb => rval_any ad ac a vd vc vs W (hA.later hb) hIa la (hV.later hb) hvs
  have H1 : Hid (∀ W od oc id ic, Below w.heap.size w W → RowV W od (a.flatMap NodeC) → RowV W id (vs.flatMap IntC) → Calls Tryd.prog 21 #[.slice od a.length oc, .slice id vs.length ic] W fun e w' => e = .returned (.tuple #[.bool (holdsT vs a).1, .int .i64 (holdsT vs a).2]) ∧ Below W.heap.size W w') := fun W od oc id ic hb hr hq => holds_any od oc a id ic vs W (ops_later hT hb) hr hIa hq hvs
  have H2 : Hid (∀ W, Below w.heap.size w W → Calls Tryd.prog 22 #[.slice ad a.length ac, .slice vd vs.length vc] W fun e w' => e = .returned (.tuple #[.bool (holdsT vs a).1, .int .i64 (holdsT vs a).2]) ∧ Below W.heap.size W w') := fun W hb => rholds_any ad ac a vd vc vs W (hA.later hb) hIa la (hV.later hb) hvs
  have KP : Hid (∀ W g, Below w.heap.size w W → NdsV W (some ⟨g, 0, none⟩) (roomy (ndsOf a)) → Calls Tryd.prog 17 #[.slice (some ⟨g, 0, none⟩) a.length (a.length + 9), .slice ad a.length ac] W fun e w' => e = .returned (.bool true) ∧ Below W.heap.size W w') := fun W g hb hr => kept_nds g ad ac (ndsOf a) W hr (nds_row (hA.later hb)) la
  have KI : Hid (∀ W g, Below w.heap.size w W → IntsV W (some ⟨g, 0, none⟩) (roomyI (intsOf vs)) → Calls Tryd.prog 23 #[.slice (some ⟨g, 0, none⟩) vs.length (vs.length + 9), .slice vd vs.length vc] W fun e w' => e = .returned (.bool true) ∧ Below W.heap.size W w') := fun W g hb hr => kept_ints g vd vc (intsOf vs) W hr (ints_row (hV.later hb)) lv
  have RO : Hid (∀ W g, NdsV W (some ⟨g, 0, none⟩) (roomy (ndsOf a)) → RowV W (some ⟨g, 0, none⟩) (a.flatMap NodeC)) := fun W g h => row_nds (roomy_of h)
  have RI : Hid (∀ W g, IntsV W (some ⟨g, 0, none⟩) (roomyI (intsOf vs)) → RowV W (some ⟨g, 0, none⟩) (vs.flatMap IntC)) := fun W g h => row_ints (roomyI_of h)
  change Hid (Calls Tryd.prog 9 #[.slice ad a.length ac] w fun e w' => e = .returned (.slice (some ⟨w.heap.size, 0, none⟩) a.length (a.length + 9)) ∧ NdsV w' (some ⟨w.heap.size, 0, none⟩) (roomy (ndsOf a)) ∧ w.heap.size < w'.heap.size ∧ Below w.heap.size w w') at HA
  clear hT hP hA hIa la hV hvs lv
  generalize worthT 1 vs a = X at *
  generalize holdsT vs a = Y at *
  generalize roomy (ndsOf a) = RM at *
  generalize roomyI (intsOf vs) = RN at *
  generalize a.flatMap NodeC = AC at *
  generalize vs.flatMap IntC = VC at *
  generalize a.length = n at *
  generalize n + 9 = n9 at *
  generalize vs.length = m at *
  generalize m + 9 = m9 at *
  obtain ⟨x, ex⟩ := X
  obtain ⟨y, ey⟩ := Y
  simp only at V1 V2 H1 H2
  go_enter Tryd.func4, Tryd.ntmps4
  go_wp2_with fail
  refine HA.out.mono ?_
  rintro e w1 ⟨rfl, hr, _, hb⟩
  have NV := hideR hr
  have NR := hideR (RO.out _ _ hr)
  have B1 := hideR hb
  clear hb hr RO HA
  go_wp2_with fail
  refine (HI.out _ B1.out).mono ?_
  rintro e w2 ⟨rfl, hr, _, hb⟩
  have IV := hideR hr
  have IR := hideR (RI.out _ _ hr)
  have NV2 := hideR (NV.out.later hb)
  have NR2 := hideR (NR.out.later hb)
  have B2 := hideR (beyond B1.out hb)
  have S2 := hideR (Below.refl w2.heap.size w2)
  clear hb hr RI HI NV NR B1
  go_wp2_with fail
  refine (V1.out _ _ _ _ _ B2.out (NR2.out.later S2.out) (IR.out.later S2.out)).mono ?_
  rintro e w3 ⟨rfl, hb⟩
  have B3 := hideR (beyond B2.out hb)
  have S3 := hideR (beyond S2.out hb)
  clear hb
  go_wp2_with fail
  refine (V2.out _ B3.out).mono ?_
  rintro e w4 ⟨rfl, hb⟩
  have B4 := hideR (beyond B3.out hb)
  have S4 := hideR (beyond S3.out hb)
  clear hb
  go_wp2_with fail
  refine (H1.out _ _ _ _ _ B4.out (NR2.out.later S4.out) (IR.out.later S4.out)).mono ?_
  rintro e w5 ⟨rfl, hb⟩
  have B5 := hideR (beyond B4.out hb)
  have S5 := hideR (beyond S4.out hb)
  clear hb
  go_wp2_with fail
  refine (H2.out _ B5.out).mono ?_
  rintro e w6 ⟨rfl, hb⟩
  have B6 := hideR (beyond B5.out hb)
  have S6 := hideR (beyond S5.out hb)
  clear hb
  go_wp2_with fail
  refine (LV.out _ B6.out).mono ?_
  rintro e w7 ⟨rfl, hb⟩
  have B7 := hideR (beyond B6.out hb)
  have S7 := hideR (beyond S6.out hb)
  clear hb
  have yq : (y == y) = true := by simp
  go_wp2_with fail
  refine (KP.out _ _ B7.out (NV2.out.later S7.out)).mono ?_
  rintro e w8 ⟨rfl, hb⟩
  have B8 := hideR (beyond B7.out hb)
  have S8 := hideR (beyond S7.out hb)
  clear hb
  go_wp2_with fail
  refine (KI.out _ _ B8.out (IV.out.later S8.out)).mono ?_
  rintro e w9 ⟨rfl, hb⟩
  have B9 := hideR (beyond B8.out hb)
  have S9 := hideR (beyond S8.out hb)
  clear hb
  go_wp2_with fail
  go_ret
  exact ⟨rfl, B9.out⟩
theorem exprValues.walk (v0 : Value) (a : List Node) (v1 : Value) (vs : List Int) (w : World) (hT : OpsT w) (hP : Pow w) (h0 : NodeS w v0 a) (wf0 : ∀ n ∈ a, n.1 < 256 ∧ inR n.2) (by0 : a.length * 16 ≤ 140737488355328) (h1 : IntS w v1 vs) (wf1 : ∀ n ∈ vs, inR n) (by1 : vs.length * 8 ≤ 140737488355328) :
    Calls Tryd.prog 4 #[v0, v1] w fun e w' => e = .returned (.bool true) ∧ Below w.heap.size w w' := by
  obtain ⟨ad0, c0, rfl, r0⟩ := h0
  obtain ⟨ad1, c1, rfl, r1⟩ := h1
  exact exprValues.inner ad0 c0 a ad1 c1 vs w hT hP r0 (fun n hn => (wf0 n hn).1) by0 r1 wf1 by1
end Go.Proofs.YtmnhbokiibaopaaDoor
