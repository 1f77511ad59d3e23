/-
  The walk of ExprUnlike.
-/
import Derived.Test.YtmnhbokiibaopaaDoorUf
namespace Go.Proofs.YtmnhbokiibaopaaDoor
open Go.RowKit
set_option linter.unusedVariables false
theorem strs_at {W : World} {ad : Option Addr} {l : List ByteArray} (h : RowV W ad (l.flatMap StrC)) {k : Nat} (hk : k < l.length) : ∃ b off, ad = some ⟨b, off, none⟩ ∧ W.cell? ⟨b, off + k, none⟩ = some (.string (l[k]'hk)) := by
  obtain ⟨b, off, e, cc⟩ := rowV_at (s := 1) (fun _ => rfl) h (by decide) hk
  have x0 := cc 0 (by decide)
  simp only [StrC, List.getElem?_cons_zero, Nat.mul_one, Nat.add_zero] at x0
  exact ⟨b, off, e, x0⟩
theorem toList_data (s : ByteArray) : s.toList = s.data.toList := by rw [ByteArray.toList_eq]
theorem toList_ne {a b : ByteArray} (h : ¬ a = b) : (a.toList == b.toList) = false := by
  rw [toList_data, toList_data]
  simp only [beq_eq_false_iff_ne, ne_eq]
  intro q
  exact h (by rw [← str_back a, ← str_back b, q])
set_option maxRecDepth 100000 in
set_option maxHeartbeats 4000000 in
theorem exprUnlike.inner (ad : Option Addr) (ac : Nat) (a : List Node) (bd : Option Addr) (bc : Nat) (b : List Node) (vd : Option Addr) (vc : Nat) (ns : List ByteArray) (w : World) (hT : OpsT w) (hP : Pow w) (hA : RowV w ad (a.flatMap NodeC)) (hIa : ∀ n ∈ a, n.1 < 256) (hB : RowV w bd (b.flatMap NodeC)) (hIb : ∀ n ∈ b, n.1 < 256) (hV : RowV w vd (ns.flatMap StrC)) (hns : ∀ s ∈ ns, s.size ≤ 140737488355328) (la : a.length * 16 ≤ 140737488355328) (lb : b.length * 16 ≤ 140737488355328) (ln : ns.length * 16 ≤ 140737488355328) :
    Calls Tryd.prog 8 #[.slice ad a.length ac, .slice bd b.length bc, .slice vd ns.length vc] w fun e w' => e = .returned (.bool true) ∧ Below w.heap.size w w' := by
  have PA : Hid (∀ W, Below w.heap.size w W → Calls Tryd.prog 33 #[.slice ad a.length ac, .slice vd ns.length vc] W fun e w' => e = .returned (.tuple #[.string (printT ns a).1, .int .i64 (printT ns a).2]) ∧ Below W.heap.size W w') := fun W hb => print_any ad ac a vd vc ns W (ops_later hT hb) (pow_later hP hb) (hA.later hb) hIa (hV.later hb) hns
  have PB : Hid (∀ W, Below w.heap.size w W → Calls Tryd.prog 33 #[.slice bd b.length bc, .slice vd ns.length vc] W fun e w' => e = .returned (.tuple #[.string (printT ns b).1, .int .i64 (printT ns b).2]) ∧ Below W.heap.size W w') := fun W hb => print_any bd bc b vd vc ns W (ops_later hT hb) (pow_later hP hb) (hB.later hb) hIb (hV.later hb) hns
  have LV : Hid (∀ W, Below w.heap.size w W → Calls Tryd.prog 10 #[] W fun e w' => e = .returned (.bool true) ∧ Below W.heap.size W w') := fun W hb => live_any W (ops_later hT hb) (pow_later hP hb)
  have SA : Hid (∀ W, Below w.heap.size w W → Calls Tryd.prog 35 #[.slice ad a.length ac, .slice bd b.length bc] W fun e w' => e = .returned (.bool (decide (a = b))) ∧ Below W.heap.size W w') := fun W hb => same_any ad ac a bd bc b W (hA.later hb) (hB.later hb) la lb
  have IN : Hid (∀ s ∈ ns, ∀ W, Calls Tryd.prog 37 #[.string s] W fun e w' => NmA s e ∧ Below W.heap.size W w') := fun s hs W => isname_any s W (hns s hs)
  have EQ : Hid ((∀ s ∈ ns, NameOk s) → (∀ (i j : Nat) (x : ByteArray), ns[i]? = some x → ns[j]? = some x → i = j) → (printT ns a).2 = 0 → (printT ns b).2 = 0 → ((printT ns a).1 = (printT ns b).1 ↔ a = b)) := fun h1 h2 h3 h4 => ⟨fun h => print_inj h1 (fun i j hi hj e => h2 i j _ (List.getElem?_eq_getElem hi) (by rw [e]; exact List.getElem?_eq_getElem hj)) h3 h4 h, fun h => by rw [h]⟩
  have HV := hideR hV
  have nl : (ns.length : Int) ≤ 9000000000000 := by omega
  clear hT hP hA hIa hB hIb hV hns la lb ln
  generalize hn : ns.length = n at *
  have HN := hideR hn
  clear hn
  generalize a.length = na at *
  generalize b.length = nb at *
  go_enter Tryd.func8, Tryd.ntmps8
  go_wp2_with fail
  go_loopw [7] (fun i wr => ∃ (j : Nat), j ≤ n ∧ i = .int .i64 j ∧ Hid (Below w.heap.size w wr ∧ (∀ (i : Nat) (x : ByteArray), i < j → ns[i]? = some x → NameOk x) ∧ ∀ (i p : Nat) (x : ByteArray), i < j → p < i → ns[i]? = some x → ns[p]? = some x → False)) (fun i _ => n - (intOf i).toNat)
  case atStart => exact ⟨0, by omega, rfl, Below.refl _ _, fun i x h => absurd h (Nat.not_lt_zero _), fun i p x h => absurd h (Nat.not_lt_zero _)⟩
  case round =>
    obtain ⟨j, hj, rfl, E⟩ := hrel
    have B1 := hideR E.out.1
    by_cases cj : j < n
    · have jl : j < ns.length := by rw [HN.out]; exact cj
      obtain ⟨bk, off, rfl, x0⟩ := strs_at (HV.out.later B1.out) jl
      have HX := hideR (List.getElem?_eq_getElem jl)
      have NI := hideR (IN.out _ (List.getElem_mem jl) wr)
      generalize ns[j]'jl = s at *
      have k0 : (0 : Int) ≤ (j : Int) := by omega
      have k1 : (j : Int) < (n : Int) := by omega
      have e1 : IntKind.i64.wrap ((j : Int) + 1) = (j : Int) + 1 := by rw [IntKind.wrap_i64]; omega
      go_wp2_with fail
      refine NI.out.mono ?_
      rintro e w1 ⟨⟨r, rfl, hr⟩, hb⟩
      have B2 := hideR (beyond B1.out hb)
      have xs := kc _ _ hb x0
      clear hb NI x0
      cases r with
      | false =>
        clear hr
        go_wp2_with fail
        refine (LV.out _ B2.out).mono ?_
        rintro e w2 ⟨rfl, hb⟩
        have B3 := hideR (beyond B2.out hb)
        clear hb
        go_wp2_with fail
        go_ret
        exact ⟨rfl, B3.out⟩
      | true =>
        have NK := hideR (hr rfl)
        clear hr
        go_wp2_with fail
        go_loopw [8] (fun p wr => ∃ (q : Nat), q ≤ j ∧ p = .int .i64 q ∧ Hid (Below w.heap.size w wr ∧ ∀ (p : Nat) (x : ByteArray), p < q → ns[p]? = some x → ¬ x = s)) (fun p _ => j - (intOf p).toNat)
        case atStart => exact ⟨0, by omega, rfl, B2.out, fun p x h => absurd h (Nat.not_lt_zero _)⟩
        case round =>
          obtain ⟨q, hq, rfl, F⟩ := hrel
          have B3 := hideR F.out.1
          by_cases cq : q < j
          · have ql : q < ns.length := by rw [HN.out]; omega
            have k2 : (0 : Int) ≤ (q : Int) := by omega
            have k3 : (q : Int) < (n : Int) := by omega
            have k4 : (q : Int) < (j : Int) := by omega
            have e2 : IntKind.i64.wrap ((q : Int) + 1) = (q : Int) + 1 := by rw [IntKind.wrap_i64]; omega
            obtain ⟨bk2, off2, hbo, y0⟩ := strs_at (HV.out.later B3.out) ql
            injection hbo with hbo
            injection hbo with z1 z2
            subst z1 z2
            obtain ⟨bk3, off3, hbo, x0⟩ := strs_at (HV.out.later B3.out) jl
            injection hbo with hbo
            injection hbo with z1 z2
            subst z1 z2
            have hs : ns[j]'jl = s := by
              have := HX.out
              rw [List.getElem?_eq_getElem jl] at this
              exact Option.some.inj this
            rw [hs] at x0
            have HY := hideR (List.getElem?_eq_getElem ql)
            generalize ns[q]'ql = y at *
            clear hs xs
            by_cases cy : y = s
            · subst cy
              clear F
              have yy : (y.toList == y.toList) = true := by simp
              go_wp2_with fail
              go_quiet (fail)
              go_wp2_with fail
              refine (LV.out _ (by first | exact B3.out | exact Below.drew B3.out | exact below_drewN B3.out _)).mono ?_
              rintro e w2 ⟨rfl, hb⟩
              have B4 := hideR (beyond (w := w) (by first | exact B3.out | exact Below.drew B3.out | exact below_drewN B3.out _) hb)
              clear hb
              go_wp2_with fail
              go_ret
              exact ⟨rfl, B4.out⟩
            · have F2 : Hid (∀ (p : Nat) (x : ByteArray), p < q + 1 → ns[p]? = some x → ¬ x = s) := fun p x hp hx => by
                by_cases z : p = q
                · subst z
                  obtain rfl := Option.some.inj (HY.out.symm.trans hx)
                  exact cy
                · exact F.out.2 p x (by omega) hx
              clear F
              have ny := toList_ne cy
              go_wp2_with fail
              go_quiet (fail)
              go_wp2_with fail
              go_roundw
              case rel => exact ⟨q + 1, by omega, by go_num, ⟨by first | exact B3.out | exact Below.drew B3.out | exact below_drewN B3.out _, F2.out⟩⟩
              case measure => first | (simp [intOf]; done) | (simp [intOf]; omega)
          · obtain rfl : q = j := by omega
            have k4 : ¬ (q : Int) < (q : Int) := by omega
            go_wp2_with fail
            go_roundw
            case rel => exact ⟨q + 1, by omega, by go_num, B3.out, fun i x hi hx => by
              by_cases z : i = q
              · subst z
                obtain rfl := Option.some.inj (HX.out.symm.trans hx)
                exact NK.out
              · exact E.out.2.1 i x (by omega) hx, fun i p x hi hp hx hy => by
              by_cases z : i = q
              · subst z
                obtain rfl := Option.some.inj (HX.out.symm.trans hx)
                exact F.out.2 p _ hp hy rfl
              · exact E.out.2.2 i p x (by omega) hp hx hy⟩
            case measure => first | (simp [intOf]; done) | (simp [intOf]; omega)
    · have k1 : ¬ (j : Int) < (n : Int) := by omega
      obtain rfl : j = n := by omega
      have AN : Hid (∀ s ∈ ns, NameOk s) := fun s hs => by
        obtain ⟨i, hi⟩ := List.mem_iff_getElem?.1 hs
        have := (List.getElem?_eq_some_iff.1 hi).1
        exact E.out.2.1 i s (by have := HN.out; omega) hi
      have AD : Hid (∀ (i p : Nat) (x : ByteArray), ns[i]? = some x → ns[p]? = some x → i = p) := fun i p x hi hp => by
        have l1 := (List.getElem?_eq_some_iff.1 hi).1
        have l2 := (List.getElem?_eq_some_iff.1 hp).1
        have := HN.out
        rcases Nat.lt_trichotomy i p with q | q | q
        · exact (E.out.2.2 p i x (by omega) q hp hi).elim
        · exact q
        · exact (E.out.2.2 i p x (by omega) q hi hp).elim
      have FE := hideR (EQ.out AN.out AD.out)
      clear EQ AN AD E IN
      generalize printT ns a = X at *
      generalize printT ns b = Y at *
      obtain ⟨x, ex⟩ := X
      obtain ⟨y, ey⟩ := Y
      simp only at PA PB FE
      go_wp2_with fail
      refine (PA.out _ B1.out).mono ?_
      rintro e w1 ⟨rfl, hb⟩
      have B2 := hideR (beyond B1.out hb)
      clear hb PA B1
      go_wp2_with fail
      refine (PB.out _ B2.out).mono ?_
      rintro e w2 ⟨rfl, hb⟩
      have B3 := hideR (beyond B2.out hb)
      clear hb PB B2
      go_wp2_with fail
      refine (LV.out _ B3.out).mono ?_
      rintro e w3 ⟨rfl, hb⟩
      have B4 := hideR (beyond B3.out hb)
      clear hb LV B3
      by_cases c1 : ex = 0
      · by_cases c2 : ey = 0
        · have FI := FE.out c1 c2
          subst c1 c2
          clear FE
          by_cases cx : x = y
          · have cab : decide (a = b) = true := decide_eq_true (FI.1 cx)
            rw [cab] at SA
            subst cx
            clear FI cab
            have xx : (x.toList == x.toList) = true := by simp
            go_wp2_with fail
            refine (SA.out _ B4.out).mono ?_
            rintro e w4 ⟨rfl, hb⟩
            have B5 := hideR (beyond B4.out hb)
            clear hb SA B4
            go_wp2_with fail
            go_ret
            exact ⟨rfl, B5.out⟩
          · have cab : decide (a = b) = false := decide_eq_false (fun q => cx (FI.2 q))
            rw [cab] at SA
            have ny := toList_ne cx
            clear FI cab
            go_wp2_with fail
            refine (SA.out _ B4.out).mono ?_
            rintro e w4 ⟨rfl, hb⟩
            have B5 := hideR (beyond B4.out hb)
            clear hb SA B4
            go_wp2_with fail
            go_ret
            exact ⟨rfl, B5.out⟩
        · have d2 : (ey == 0) = false := by simpa using c2
          subst c1
          go_wp2_with fail
          go_ret
          exact ⟨rfl, B4.out⟩
      · have d1 : (ex == 0) = false := by simpa using c1
        go_wp2_with fail
        go_ret
        exact ⟨rfl, B4.out⟩
theorem exprUnlike.walk (v0 : Value) (a : List Node) (v1 : Value) (b : List Node) (v2 : Value) (ns : List ByteArray) (w : World) (hT : OpsT w) (hP : Pow w) (h0 : NodeS w v0 a) (wf0 : ∀ n ∈ a, n.1 < 256 ∧ inR n.2) (by0 : a.length * 16 ≤ 140737488355328) (h1 : NodeS w v1 b) (wf1 : ∀ n ∈ b, n.1 < 256 ∧ inR n.2) (by1 : b.length * 16 ≤ 140737488355328) (h2 : StrS w v2 ns) (wf2 : ∀ s ∈ ns, s.size ≤ 140737488355328) (by2 : ns.length * 16 ≤ 140737488355328) :
    Calls Tryd.prog 8 #[v0, v1, v2] w fun e w' => e = .returned (.bool true) ∧ Below w.heap.size w w' := by
  obtain ⟨ad0, c0, rfl, r0⟩ := h0
  obtain ⟨ad1, c1, rfl, r1⟩ := h1
  obtain ⟨ad2, c2, rfl, r2⟩ := h2
  exact exprUnlike.inner ad0 c0 a ad1 c1 b ad2 c2 ns w hT hP r0 (fun n hn => (wf0 n hn).1) r1 (fun n hn => (wf1 n hn).1) r2 wf2 by0 by1 by2
end Go.Proofs.YtmnhbokiibaopaaDoor
