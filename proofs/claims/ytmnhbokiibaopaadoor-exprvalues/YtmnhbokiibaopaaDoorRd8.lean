/-
  The document's value, Value, Holds.
-/
import Derived.Test.YtmnhbokiibaopaaDoorRc8
namespace Go.Proofs.YtmnhbokiibaopaaDoor
open Go.RowKit
set_option linter.unusedVariables false
theorem rvalue_any (ad : Option Addr) (cap : Nat) (l : List Node) (va : Option Addr) (vc : Nat) (vs : List Int) (w : World) (hV : RowV w ad (l.flatMap NodeC)) (hI : ∀ n ∈ l, n.1 < 256) (hv : RowV w va (vs.flatMap IntC)) (hvs : ∀ v ∈ vs, inR v) {t : Nat} (hk : kindL (vs.length : Int) l = some t) :
    ∀ m i, l.length - i ≤ m → i < l.length → ∀ W, Below w.heap.size w W → Calls Tryd.prog 44 #[.slice ad l.length cap, .int .i64 (i : Int), .slice va vs.length vc] W fun e w' => AnsW e (valAt vs l i) ∧ Below W.heap.size W w'
  | 0, i, hm, hi, W, hb => by omega
  | m + 1, i, hm, hi, W, hb => by
    have IH := rvalue_any ad cap l va vc vs w hV hI hv hvs hk m
    have h64 := (kindL_stk hk).1
    have hx : l[i]? = some (l[i]'hi) := List.getElem?_eq_getElem hi
    obtain ⟨ps, h1, h2, h3, h4⟩ := at_node (valueJ vs) (0, false) hk hx
    obtain ⟨nok, _⟩ := right_nodes hk i hi
    obtain ⟨bk, off, rfl, x0, x1⟩ := nodes_at (hV.later hb) hi
    have hin := ok_in nok
    have hnum := ok_num nok
    have hvar := ok_var nok
    have e : valAt vs l i = valueJ vs (l[i]'hi) ps := h1
    rw [e]
    clear e h1
    have FK := fun y hp hy => first_kind hk hx (y := y) hp hy
    have zz := valAt_inR (vs := vs) hvs hk
    have P1 := pt_one (l[i]'hi) hin
    have P2 := pt_two (l[i]'hi) hin
    have p2 := pt_le (l[i]'hi)
    have bb : ∀ j y, l[j]? = some y → kd y = 2 → bit (valAt vs l j) := fun j y hy hkd => valAt_bit hk hy hkd
    have YES : ∀ j x, i < j → j < l.length → valAt vs l j = (x, false) → Hid (∀ W', Below W.heap.size W W' → Calls Tryd.prog 44 #[.slice (some ⟨bk, off, none⟩) l.length cap, .int .i64 (j : Int), .slice va vs.length vc] W' fun e w' => e = .returned (.tuple #[.int .i64 x, .bool true]) ∧ Below W'.heap.size W' w') := by
      intro j x hij hj hx W' hb'
      refine (IH j (by omega) hj W' (beyond hb hb')).mono ?_
      rintro e w2 ⟨⟨v, ok, rfl, h1, h2⟩, h3⟩
      rw [hx] at h1 h2
      have h1' : ok = true := h1
      subst h1'
      rw [h2 rfl]
      exact ⟨rfl, h3⟩
    have NON : ∀ j x, i < j → j < l.length → valAt vs l j = (x, true) → Hid (∀ W', Below W.heap.size W W' → Calls Tryd.prog 44 #[.slice (some ⟨bk, off, none⟩) l.length cap, .int .i64 (j : Int), .slice va vs.length vc] W' fun e w' => (∃ a : Int, e = .returned (.tuple #[.int .i64 a, .bool false])) ∧ Below W'.heap.size W' w') := by
      intro j x hij hj hx W' hb'
      refine (IH j (by omega) hj W' (beyond hb hb')).mono ?_
      rintro e w2 ⟨⟨v, ok, rfl, h1, h2⟩, h3⟩
      rw [hx] at h1
      have h1' : ok = false := h1
      subst h1'
      exact ⟨⟨v, rfl⟩, h3⟩
    have EN : Hid (∀ W', Below W.heap.size W W' → Calls Tryd.prog 12 #[.slice (some ⟨bk, off, none⟩) l.length cap, .int .i64 ((i : Int) + 1)] W' fun e w' => e = .returned (.int .i64 (endL l ((i + 1 : Nat) : Int) : Int)) ∧ Below W'.heap.size W' w') := fun W' hb' => rend_any _ cap l ((i + 1 : Nat) : Int) ⟨by omega, by omega⟩ W' (hV.later (beyond hb hb')) hI (by omega)
    generalize l[i]'hi = x at *
    obtain ⟨o, N⟩ := x
    simp only at x0 x1 hin hnum hvar
    have nt : ∀ k : Nat, ¬ o = k → ((o : Int) == (k : Int)) = false := fun k h => by simp; omega
    unfold valueJ
    simp only
    by_cases c1 : o = 1
    · subst c1
      rw [if_pos rfl]
      exact val1 bk off cap i l.length N _ hi h64 W x0 x1
    rw [if_neg c1]
    by_cases c2 : o = 2
    · subst c2
      rw [if_pos rfl]
      obtain ⟨v0, v1⟩ := hvar rfl
      obtain ⟨N', rfl⟩ := Int.eq_ofNat_of_zero_le v0
      have hN : N' < vs.length := by omega
      obtain ⟨b, off', rfl, cc⟩ := rowV_at (s := 1) (fun _ => rfl) (hv.later hb) (by decide) hN
      have y0 := cc 0 (by decide)
      simp only [IntC, List.getElem?_cons_zero, Nat.mul_one, Nat.add_zero] at y0
      have e : vs.getD (N' : Int).toNat 0 = vs[N'] := by simp [hN]
      rw [e]
      exact val2 bk off cap i l.length N' vs.length b off' vc _ hi h64 hN W x0 x1 y0
    rw [if_neg c2]
    by_cases c7 : o = 7
    · subst c7
      rw [if_pos rfl]
      exact val7 bk off cap i l.length _ hi h64 W x0
    rw [if_neg c7]
    have q1 := P1 c1 c2 c7
    obtain ⟨j1, g1⟩ := h3 q1
    have hg0 : ps.getD 0 (0, false) = valAt vs l (i + 1) := by rw [List.getD_eq_getElem?_getD, g1]; rfl
    rw [hg0]
    have zx := zz (i + 1)
    have Y1 := YES (i + 1)
    have N1 := NON (i + 1)
    have BX : (opR o).2.1 = 2 → bit (valAt vs l (i + 1)) := fun h => bb (i + 1) _ (List.getElem?_eq_getElem j1) ((FK _ q1 (List.getElem?_eq_getElem j1)).trans h)
    generalize valAt vs l (i + 1) = X at *
    obtain ⟨x, xn⟩ := X
    simp only at zx
    cases xn with
    | true =>
      rw [if_pos rfl]
      exact valNo bk off cap i l.length o x _ (nt 1 c1) (nt 2 c2) (nt 7 c7) hi h64 W x0 (N1 x (by omega) j1 rfl)
    | false =>
      rw [if_neg Bool.false_ne_true]
      have VA := Y1 x (by omega) j1 rfl
      by_cases c3 : o = 3
      · subst c3
        rw [if_neg (by omega), if_neg (by omega), if_pos rfl]
        exact valNeg bk off cap i l.length x _ hi h64 zx W x0 VA
      by_cases c12 : o = 12
      · subst c12
        rw [if_neg (by omega), if_neg (by omega), if_neg (by omega), if_pos rfl]
        exact valNot bk off cap i l.length x _ hi h64 W x0 VA
      have q2 : pt (o, N) = 2 := by have := P2 c1 c2 c7 c3 c12; omega
      obtain ⟨f1, f2, f3⟩ := h4 (by omega)
      have hg1 : ps.getD 1 (0, false) = valAt vs l (endL l ((i + 1 : Nat) : Int)) := by rw [List.getD_eq_getElem?_getD, f3]; rfl
      rw [hg1]
      have zy := zz (endL l ((i + 1 : Nat) : Int))
      have Y2 := YES (endL l ((i + 1 : Nat) : Int))
      have N2 := NON (endL l ((i + 1 : Nat) : Int))
      generalize valAt vs l (endL l ((i + 1 : Nat) : Int)) = Y at *
      generalize endL l ((i + 1 : Nat) : Int) = en at *
      obtain ⟨y, yn⟩ := Y
      simp only at zy
      have x01 : 13 ≤ o → x = 0 ∨ x = 1 := fun h => by
        have t2 : ∀ o : Nat, o < 15 → 12 ≤ o → (opR o).2.1 = 2 := by decide
        rcases BX (t2 o (by omega) (by omega)) with q | q | q
        · cases q
        · exact .inl q
        · exact .inr q
      by_cases s13 : o = 13 ∧ ¬ x = 1
      · rw [if_pos s13]
        obtain ⟨rfl, s2⟩ := s13
        obtain rfl : x = 0 := (x01 (by omega)).elim id (fun q => (s2 q).elim)
        exact valAnd0 bk off cap i l.length _ hi h64 W x0 VA
      rw [if_neg s13]
      by_cases s14 : o = 14 ∧ x = 1
      · rw [if_pos s14]
        obtain ⟨rfl, rfl⟩ := s14
        exact valOr1 bk off cap i l.length _ hi h64 W x0 VA
      rw [if_neg s14, if_neg c3, if_neg c12]
      cases yn with
      | true =>
        rw [if_pos rfl]
        have VB := N2 y (by omega) f2 rfl
        by_cases d13 : o = 13
        · subst d13
          obtain rfl : x = 1 := (x01 (by omega)).elim (fun q => (s13 ⟨rfl, by omega⟩).elim) id
          exact valAndNo2 bk off cap i l.length en y _ hi h64 W x0 VA EN VB
        by_cases d14 : o = 14
        · subst d14
          obtain rfl : x = 0 := (x01 (by omega)).elim id (fun q => (s14 ⟨rfl, q⟩).elim)
          exact valOrNo2 bk off cap i l.length en y _ hi h64 W x0 VA EN VB
        exact valNo2 bk off cap i l.length en o y x _ (nt 1 c1) (nt 2 c2) (nt 7 c7) (nt 3 c3) (nt 12 c12) (nt 13 d13) (nt 14 d14) hi h64 W x0 VA EN VB
      | false =>
        rw [if_neg Bool.false_ne_true]
        have VB := Y2 y (by omega) f2 rfl
        unfold joinV
        simp only
        by_cases d4 : o = 4
        · subst d4
          rw [if_pos rfl]
          exact valAdd bk off cap i l.length en x y _ hi h64 zx zy W x0 VA EN VB
        rw [if_neg d4]
        by_cases d5 : o = 5
        · subst d5
          rw [if_pos rfl]
          exact valSub bk off cap i l.length en x y _ hi h64 zx zy W x0 VA EN VB
        rw [if_neg d5]
        by_cases d6 : o = 6
        · subst d6
          rw [if_pos rfl]
          exact valMul bk off cap i l.length en x y _ hi h64 zx zy W x0 VA EN VB
        rw [if_neg d6]
        by_cases d8 : o = 8
        · subst d8
          rw [if_pos rfl]
          exact valLess bk off cap i l.length en x y _ hi h64 W x0 VA EN VB
        rw [if_neg d8]
        by_cases d9 : o = 9
        · subst d9
          rw [if_pos rfl]
          exact valAtMost bk off cap i l.length en x y _ hi h64 W x0 VA EN VB
        rw [if_neg d9]
        by_cases d10 : o = 10
        · subst d10
          rw [if_pos rfl]
          exact valEqual bk off cap i l.length en x y _ hi h64 W x0 VA EN VB
        rw [if_neg d10]
        by_cases d11 : o = 11
        · subst d11
          rw [if_pos rfl]
          exact valUnlike bk off cap i l.length en x y _ hi h64 W x0 VA EN VB
        rw [if_neg d11]
        by_cases d13 : o = 13
        · subst d13
          obtain rfl : x = 1 := (x01 (by omega)).elim (fun q => (s13 ⟨rfl, by omega⟩).elim) id
          exact valAnd1 bk off cap i l.length en y _ hi h64 W x0 VA EN VB
        · obtain rfl : o = 14 := by
            have t3 : ∀ o : Nat, o < 15 → (opR o).1 = 2 → o = 4 ∨ o = 5 ∨ o = 6 ∨ o = 8 ∨ o = 9 ∨ o = 10 ∨ o = 11 ∨ o = 13 ∨ o = 14 := by decide
            have := t3 o (by omega) q2
            omega
          obtain rfl : x = 0 := (x01 (by omega)).elim id (fun q => (s14 ⟨rfl, q⟩).elim)
          exact valOr0 bk off cap i l.length en y _ hi h64 W x0 VA EN VB
end Go.Proofs.YtmnhbokiibaopaaDoor
