/-
  The document's text and Print; the walk of ExprTexts.
-/
import Derived.Test.YtmnhbokiibaopaaDoorQo
import Derived.Test.YtmnhbokiibaopaaDoorQh
namespace Go.Proofs.YtmnhbokiibaopaaDoor
open Go.RowKit
set_option linter.unusedVariables false
theorem rtext_any (ad : Option Addr) (cap : Nat) (l : List Node) (va : Option Addr) (vc : Nat) (ns : List ByteArray) (w : World) (hP : Pow w) (hV : RowV w ad (l.flatMap NodeC)) (hI : ∀ n ∈ l, n.1 < 256) (hv : RowV w va (ns.flatMap StrC)) (hns : ∀ s ∈ ns, s.size ≤ 140737488355328) {t : Nat} (hk : kindL (ns.length : Int) l = some t) :
    ∀ m i, l.length - i ≤ m → i < l.length → ∀ W, Below w.heap.size w W → Calls Tryd.prog 65 #[.slice ad l.length cap, .int .i64 (i : Int), .slice va ns.length vc] W fun e w' => e = .returned (.string (txtAt ns l i).1) ∧ Below W.heap.size W w'
  | 0, i, hm, hi, W, hb => by omega
  | m + 1, i, hm, hi, W, hb => by
    have IH := rtext_any ad cap l va vc ns w hP hV hI hv hns hk m
    have h64 := (kindL_stk hk).1
    have hx : l[i]? = some (l[i]'hi) := List.getElem?_eq_getElem hi
    obtain ⟨ps, h1, h2, h3, h4⟩ := at_node (textJ ns) (str [], 0) hk hx
    obtain ⟨nok, _⟩ := right_nodes hk i hi
    obtain ⟨bk, off, rfl, x0, x1⟩ := nodes_at (hV.later hb) hi
    have hin := ok_in nok
    have hnum := ok_num nok
    have hvar := ok_var nok
    have e : (txtAt ns l i).1 = wordsJ ns (l[i]'hi) ps := by
      show (headAt (textJ ns) (str [], 0) l i).1 = _
      rw [h1]
      rfl
    rw [e]
    clear e h1
    have hcmp := fun y h2 hb3 hy => cmp_left (ns := ns) hk hx (y := y) h2 hb3 hy
    have zz := txtAt_size hns hk
    have P1 := pt_one (l[i]'hi) hin
    have P2 := pt_two (l[i]'hi) hin
    have p2 := pt_le (l[i]'hi)
    have bnd : ∀ j y, l[j]? = some y → (txtAt ns l j).2 = (opR y.1).2.2.2.2 := fun j y hy => txtAt_binds hk hy
    have PART : ∀ j, i < j → j < l.length → ∀ W' (b : Nat), Below W.heap.size W W' → Calls Tryd.prog 81 #[.slice (some ⟨bk, off, none⟩) l.length cap, .int .i64 (j : Int), .int .i64 (b : Int), .slice va ns.length vc] W' fun e w' => e = .returned (.string (inT b (txtAt ns l j))) ∧ Below W'.heap.size W' w' := by
      intro j hij hj W' b hb'
      have hy : l[j]? = some (l[j]'hj) := List.getElem?_eq_getElem hj
      exact part_any _ cap l va vc ns.length j l.length b (l[j]'hj).1 (txtAt ns l j) W' (hV.later (beyond hb hb')) rfl ⟨(l[j]'hj).2, hy⟩ hj (ok_in (right_nodes hk j hj).1) (bnd j _ hy) (zz j) (fun W2 h2 => IH j (by omega) hj W2 (beyond hb (beyond hb' h2)))
    generalize l[i]'hi = x at *
    obtain ⟨o, N⟩ := x
    simp only at x0 x1 hin hnum hvar
    unfold wordsJ
    simp only
    by_cases c1 : o = 1
    · subst c1
      rw [if_pos rfl]
      have := hnum rfl
      exact text1 bk off cap i l.length N _ hi W x0 x1 (by omega) (by omega) (pow_later hP hb)
    rw [if_neg c1]
    by_cases c2 : o = 2
    · subst c2
      rw [if_pos rfl]
      obtain ⟨v0, v1⟩ := hvar rfl
      obtain ⟨N', rfl⟩ := Int.eq_ofNat_of_zero_le v0
      have hN : N' < ns.length := by omega
      obtain ⟨b, off', rfl, cc⟩ := rowV_at (s := 1) (fun _ => rfl) (hv.later hb) (by decide) hN
      have y0 := cc 0 (by decide)
      simp only [StrC, List.getElem?_cons_zero, Nat.mul_one, Nat.add_zero] at y0
      have e : ns.getD (N' : Int).toNat (str []) = ns[N'] := by simp [hN]
      rw [e]
      exact text2 bk off cap i l.length N' ns.length b off' vc _ hi hN W x0 x1 y0
    rw [if_neg c2]
    by_cases c7 : o = 7
    · subst c7
      rw [if_pos rfl]
      exact text7 bk off cap i l.length _ hi W x0
    rw [if_neg c7]
    have q1 := P1 c1 c2 c7
    obtain ⟨j1, g1⟩ := h3 q1
    have cast1 : ((i + 1 : Nat) : Int) = (i : Int) + 1 := rfl
    by_cases c3 : o = 3
    · subst c3
      rw [if_pos rfl]
      have hp := one_part (h2.trans (show pt (3, N) = 1 from rfl)) g1
      subst hp
      exact text3 bk off cap i l.length _ (txtAt ns l (i + 1)) hi h64 W x0 (zz (i + 1)) (fun W' hb' => PART (i + 1) (by omega) j1 W' 6 hb')
    rw [if_neg c3]
    by_cases c12 : o = 12
    · subst c12
      rw [if_pos rfl]
      have hp := one_part (h2.trans (show pt (12, N) = 1 from rfl)) g1
      subst hp
      exact text12 bk off cap i l.length _ (txtAt ns l (i + 1)).1 hi h64 W x0 (zz (i + 1)) (fun W' hb' => IH (i + 1) (by omega) j1 W' (beyond hb hb'))
    rw [if_neg c12]
    have q2 : pt (o, N) = 2 := by have := P2 c1 c2 c7 c3 c12; omega
    obtain ⟨f1, f2, f3⟩ := h4 (by omega)
    have hp := two_parts (h2.trans q2) g1 f3
    subst hp
    refine textB bk off cap i l.length o _ (txtAt ns l (i + 1)) (txtAt ns l (endL l ((i + 1 : Nat) : Int))) (endL l ((i + 1 : Nat) : Int)) hi h64 W x0 q2 hin (zz _) (zz _) (fun h3 => hcmp _ q2 h3 (List.getElem?_eq_getElem j1)) (fun W' b hb' => PART (i + 1) (by omega) j1 W' b hb') (fun W' hb' => ?_) (fun W' b hb' => PART _ (by omega) f2 W' b hb')
    exact rend_any _ cap l ((i + 1 : Nat) : Int) ⟨by omega, by omega⟩ W' (hV.later (beyond hb hb')) hI (by omega)
theorem txtAt_zero {ns : List ByteArray} {l : List Node} {t : Nat} {k : Int} (h : kindL k l = some t) : txtAt ns l 0 = txtL ns l := by
  obtain ⟨_, hs⟩ := kindL_stk h
  obtain ⟨s', e, hl⟩ := stk_total (textJ ns) l [t] hs
  match s', hl with
  | [u], _ =>
    have h1 : txtAt ns l 0 = u := head_of (s := []) (by simpa using e)
    rw [h1]
    unfold txtL
    rw [fold_one _ l u e]
    rfl
set_option maxRecDepth 100000 in
theorem rprint_any (ad : Option Addr) (cap : Nat) (l : List Node) (va : Option Addr) (vc : Nat) (ns : List ByteArray) (w : World) (hP : Pow w) (hV : RowV w ad (l.flatMap NodeC)) (hI : ∀ n ∈ l, n.1 < 256) (hl : l.length * 16 ≤ 140737488355328) (hv : RowV w va (ns.flatMap StrC)) (hns : ∀ s ∈ ns, s.size ≤ 140737488355328) :
    Calls Tryd.prog 34 #[.slice ad l.length cap, .slice va ns.length vc] w fun e w' => e = .returned (.tuple #[.string (printT ns l).1, .int .i64 (printT ns l).2]) ∧ Below w.heap.size w w' := by
  have RG := hideR (rright_any ad cap l (ns.length : Int) w hV hI hl)
  unfold rightE at RG
  cases hk : kindL (ns.length : Int) l with
  | none =>
    have PT : Hid (printT ns l = (str [], 121)) := by
      show _ = _
      unfold printT
      rw [hk]
      rfl
    rw [hk] at RG
    clear hP hV hI hl hv hns hk
    generalize ns.length = m at *
    generalize l.length = n at *
    go_enter Tryd.func34, Tryd.ntmps34
    go_wp2_with fail
    refine RG.out.mono ?_
    rintro e w1 ⟨rfl, hb⟩
    have B1 := hideR hb
    clear hb RG
    go_wp2_with fail
    exact bodyPost_ret (v := .tuple #[.string ⟨#[]⟩, .int .i64 121]) (by simp [results, Tryd.results34, go_sem]) rfl ⟨by rw [PT.out], B1.out⟩
  | some t =>
    have h0 : 0 < l.length := by
      cases l with
      | nil => cases hk
      | cons a r => simp
    have TX : Hid (∀ W, Below w.heap.size w W → Calls Tryd.prog 65 #[.slice ad l.length cap, .int .i64 0, .slice va ns.length vc] W fun e w' => e = .returned (.string (txtAt ns l 0).1) ∧ Below W.heap.size W w') := fun W hb => rtext_any ad cap l va vc ns w hP hV hI hv hns hk l.length 0 (by omega) h0 W hb
    have PT : Hid (printT ns l = ((txtAt ns l 0).1, 0)) := by
      show _ = _
      unfold printT
      rw [hk, txtAt_zero hk]
      rfl
    rw [hk] at RG
    clear hP hV hI hl hv hns hk h0
    generalize txtAt ns l 0 = u at *
    generalize ns.length = m at *
    generalize l.length = n at *
    go_enter Tryd.func34, Tryd.ntmps34
    go_wp2_with fail
    refine RG.out.mono ?_
    rintro e w1 ⟨rfl, hb⟩
    have B1 := hideR hb
    clear hb RG
    go_wp2_with fail
    refine (TX.out _ B1.out).mono ?_
    rintro e w2 ⟨rfl, hb⟩
    have B2 := hideR (beyond B1.out hb)
    clear hb TX B1
    go_wp2_with fail
    exact bodyPost_ret (v := .tuple #[.string u.1, .int .i64 0]) (by simp [results, Tryd.results34, go_sem]) rfl ⟨by rw [PT.out], B2.out⟩
set_option maxRecDepth 100000 in
theorem exprTexts.inner (ad : Option Addr) (ac : Nat) (a : List Node) (vd : Option Addr) (vc : Nat) (ns : List ByteArray) (w : World) (hT : OpsT w) (hP : Pow w) (hA : RowV w ad (a.flatMap NodeC)) (hIa : ∀ n ∈ a, n.1 < 256) (hV : RowV w vd (ns.flatMap StrC)) (hns : ∀ s ∈ ns, s.size ≤ 140737488355328) (la : a.length * 16 ≤ 140737488355328) :
    Calls Tryd.prog 6 #[.slice ad a.length ac, .slice vd ns.length vc] w fun e w' => e = .returned (.bool true) ∧ Below w.heap.size w w' := by
  have PA := hideR (print_any ad ac a vd vc ns w hT hP hA hIa hV hns)
  have PB : Hid (∀ W, Below w.heap.size w W → Calls Tryd.prog 34 #[.slice ad a.length ac, .slice vd ns.length vc] W fun e w' => e = .returned (.tuple #[.string (printT ns a).1, .int .i64 (printT ns a).2]) ∧ Below W.heap.size W w') := fun W hb => rprint_any ad ac a vd vc ns W (pow_later hP hb) (hA.later hb) hIa la (hV.later hb) hns
  have LV : Hid (∀ W, Below w.heap.size w W → Calls Tryd.prog 10 #[] W fun e w' => e = .returned (.bool true) ∧ Below W.heap.size W w') := fun W hb => live_any W (ops_later hT hb) (pow_later hP hb)
  clear hT hP hA hIa hV hns la
  generalize printT ns a = X at *
  generalize a.length = na at *
  generalize ns.length = nn at *
  obtain ⟨x, ex⟩ := X
  simp only at *
  go_enter Tryd.func6, Tryd.ntmps6
  go_wp2_with fail
  refine PA.out.mono ?_
  rintro e w1 ⟨rfl, hb⟩
  have B1 := hideR hb
  clear hb PA
  go_wp2_with fail
  refine (PB.out _ B1.out).mono ?_
  rintro e w2 ⟨rfl, hb⟩
  have B2 := hideR (beyond B1.out hb)
  clear hb PB B1
  go_wp2_with fail
  refine (LV.out _ B2.out).mono ?_
  rintro e w3 ⟨rfl, hb⟩
  have B3 := hideR (beyond B2.out hb)
  clear hb LV B2
  go_wp2_with fail
  go_ret
  exact ⟨rfl, B3.out⟩
theorem exprTexts.walk (v0 : Value) (a : List Node) (v2 : Value) (ns : List ByteArray) (w : World) (hT : OpsT w) (hP : Pow w) (h0 : NodeS w v0 a) (wf0 : ∀ n ∈ a, n.1 < 256 ∧ inR n.2) (by0 : a.length * 16 ≤ 140737488355328) (h2 : StrS w v2 ns) (wf2 : ∀ s ∈ ns, s.size ≤ 140737488355328) :
    Calls Tryd.prog 6 #[v0, v2] w fun e w' => e = .returned (.bool true) ∧ Below w.heap.size w w' := by
  obtain ⟨ad0, c0, rfl, r0⟩ := h0
  obtain ⟨ad2, c2, rfl, r2⟩ := h2
  exact exprTexts.inner ad0 c0 a ad2 c2 ns w hT hP r0 (fun n hn => (wf0 n hn).1) r2 wf2 by0
end Go.Proofs.YtmnhbokiibaopaaDoor
