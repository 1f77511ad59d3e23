/-
  expr.fold.
-/
import Derived.Test.YtgidlgmnkjoofaaDoorPc
namespace Go.Proofs.YtgidlgmnkjoofaaDoor
open Go.RowKit
set_option linter.unusedVariables false
attribute [local go_sem] run_parts
abbrev nodeV (n : Node) : Value := .agg #[.int .u8 (n.1 : Int), .int .i64 n.2]
theorem op_node (o : Nat) (ho : o < 256) (w : World) (hT : OpsT w) : Calls Tryd.prog 58 #[.int .u8 (o : Int)] w fun e w' => e = .returned (opV (opR o)) ∧ Below w.heap.size w w' := operatorOf_any o ho w hT
theorem rev_drop {α : Type} (s : List α) (k : Nat) (h : k ≤ s.length) : (s.reverse.drop (s.length - k)).reverse = s.take k := by
  rw [List.drop_reverse, List.reverse_reverse, show s.length - (s.length - k) = k by omega]
theorem rev_take {α : Type} (s : List α) (k : Nat) (h : k ≤ s.length) : s.reverse.take (s.length - k) = (s.drop k).reverse := by
  rw [List.take_reverse, show s.length - (s.length - k) = k by omega]
set_option maxRecDepth 100000 in
set_option maxHeartbeats 2000000 in
theorem foldK (ad : Option Addr) (cap : Nat) (l : List Node) (jn : Node → List Nat → Option Nat) (P : Value) (w : World) (hT : OpsT w) (hV : RowV w ad (l.flatMap NodeC)) (hl : l.length ≤ 64) (hI : ∀ n ∈ l, n.1 < 256)
    (JN : ∀ k x l', l.drop k = x :: l' → ∀ s, stk jn l' = some s → pt x ≤ s.length → ∀ ad cap W, Below w.heap.size w W → RowV W ad ((s.take (pt x)).flatMap KindC) →
      Calls Tryd.prog 62 #[nodeV x, .slice ad (pt x) cap, P] W fun e W' => (∃ (t : Nat) (r : Bool), e = .returned (.tuple #[.int .u8 (t : Int), .bool r]) ∧ jn x (s.take (pt x)) = if r then some t else none) ∧ Below W.heap.size W W') :
    Calls Tryd.prog 61 #[.slice ad l.length cap, .func (.func 62) #[] #[P]] w fun e w' => (∃ (t : Nat) (r : Bool), e = .returned (.tuple #[.int .u8 (t : Int), .bool r]) ∧ foldL jn l = if r then some t else none) ∧ Below w.heap.size w w' := by
  obtain ⟨i0, hi, hz0, hz1, hz2⟩ := info_parts infoK
  have HV := hideR hV
  have HT := hideR hT
  have HI := hideR hI
  have J := hideR JN
  clear hV hT JN hI
  generalize hn : l.length = n at *
  have HN := hideR hn
  clear hn
  have e0 : IntKind.i64.wrap ((n : Int) - 1) = (n : Int) - 1 := by rw [IntKind.wrap_i64]; omega
  go_enter Tryd.func61, Tryd.ntmps61
  go_wp2_with fail
  go_loopw [7, 8] (fun o i wr => ∃ (k : Nat) (v : Value) (s : List Nat), k ≤ n ∧ o = v ∧ i = .int .i64 ((k : Int) - 1) ∧ Hid (stk jn (l.drop k) = some s ∧ wr.ownsRow w.heap.size 68 1 v s.length (s.reverse.flatMap KindC) ∧ Below w.heap.size w wr)) (fun _ i _ => (intOf i + 1).toNat)
  case atStart => exact ⟨n, _, [], Nat.le_refl _, rfl, rfl, by
    rw [List.drop_of_length_le (by have := HN.out; omega)]
    exact ⟨rfl, World.ownsRow_nil _ _ _ _, Below.refl _ _⟩⟩
  case round =>
    obtain ⟨k, v, s, hk, hv, hi', E⟩ := hrel
    replace hv := hv.symm
    subst hv
    cases k with
    | zero =>
      rw [show ((0 : Nat) : Int) - 1 = -1 by rfl] at hi'
      subst hi'
      have ST := hideR E.out.1
      have HB := hideR E.out.2.2
      have OW := hideR E.out.2.1
      obtain ⟨ad', cap', rfl, hR, hc⟩ := own_rowV E.out.2.1
      have HR := hideR hR
      clear E hR
      rw [List.drop_zero] at ST
      by_cases c : s.length = 1
      · match s, c with
        | [t], _ =>
          have FO := hideR (fold_one jn l t ST.out)
          have R1 := HR.out 0 (.int .u8 (t : Int)) rfl
          obtain ⟨b, off, rfl, c1⟩ := R1
          rw [Nat.add_zero] at c1
          clear HR
          go_wp2_with fail
          exact bodyPost_ret (v := .tuple #[.int .u8 (t : Int), .bool true]) (by simp [results, Tryd.results61, go_sem]) rfl ⟨⟨t, true, rfl, FO.out⟩, HB.out⟩
      · have FN := hideR (fold_many jn l s ST.out c)
        have sl : (s.length : Int) ≤ 64 := by
          have := stk_len jn l s ST.out
          have := HN.out
          omega
        have c' : ¬ (s.length : Int) = 1 := by omega
        have c2 : ((s.length : Int) == 1) = false := by simpa using c'
        clear c
        generalize s.length = q at *
        go_wp2_with fail
        exact bodyPost_ret (v := .tuple #[.int .u8 0, .bool false]) (by simp [results, Tryd.results61, go_sem]) rfl ⟨⟨0, false, rfl, FN.out⟩, HB.out⟩
    | succ m =>
      rw [show ((m + 1 : Nat) : Int) - 1 = (m : Int) by omega] at hi'
      subst hi'
      have ml : m < l.length := by rw [HN.out]; omega
      have D := hideR (List.drop_eq_getElem_cons ml)
      have XI := HI.out _ (List.getElem_mem ml)
      obtain ⟨b, off, rfl, cc⟩ := rowV_at (s := 2) (fun _ => rfl) (HV.out.later E.out.2.2) (by decide) ml
      have OP := hideR (operatorOf_any (l[m]'ml).1 XI wr (ops_later HT.out E.out.2.2))
      have JM := hideR (J.out m _ _ D.out s E.out.1)
      clear J HT HV HI
      generalize l[m]'ml = x at *
      obtain ⟨o, N⟩ := x
      have ST := hideR (stk_cons jn (o, N) _ E.out.1)
      rw [← D.out] at ST
      have ND := hideR (stk_none_drop jn l m)
      have hp : pt (o, N) = (opR o).1 := rfl
      have p2 := opR_parts o
      rw [hp] at ST JM
      clear D hp XI
      have c0 := cc 0 (by decide)
      have c1 := cc 1 (by decide)
      simp only [NodeC, List.getElem?_cons_zero, List.getElem?_cons_succ, Nat.add_zero] at c0 c1
      rw [← Nat.add_assoc] at c1
      clear cc
      have OW := hideR E.out.2.1
      have HB := hideR E.out.2.2
      have sl : s.length ≤ 64 := by
        have := stk_len jn _ s E.out.1
        have := HN.out
        simp at *
        omega
      clear E
      generalize opR o = r at *
      obtain ⟨p, tk, kd, sg, bd⟩ := r
      simp only at ST JM p2
      dsimp only [opV] at OP
      obtain ⟨q, hq⟩ : ∃ q, s.length = q := ⟨_, rfl⟩
      rw [hq] at ST JM OW sl
      have HQ := hideR hq
      clear hq
      have b1 : (m : Int) < (n : Int) := by omega
      have e1 : IntKind.i64.wrap ((m : Int) - 1) = (m : Int) - 1 := by rw [IntKind.wrap_i64]; omega
      have FNN := hideR (fun h => fold_none jn l (ND.out h))
      clear ND
      have kk := hideR hk
      clear hk e0
      by_cases c : p ≤ q
      · rw [if_neg (by omega)] at ST
        have JM2 := hideR (JM.out c)
        have RT := hideR (rev_take s p (by rw [HQ.out]; exact c))
        have RD := hideR (rev_drop s p (by rw [HQ.out]; exact c))
        rw [HQ.out] at RT RD
        clear JM
        have i1 : ¬ (q : Int) < (p : Int) := by omega
        have e2 : IntKind.i64.wrap ((q : Int) - (p : Int)) = ((q - p : Nat) : Int) := by rw [IntKind.wrap_i64]; omega
        obtain ⟨ad', cap', rfl, hR, hc⟩ := own_rowV OW.out
        have HR := hideR hR
        clear hR
        go_wp2_with fail
        refine OP.out.mono ?_
        rintro e w1 ⟨rfl, hb⟩
        clear OP
        have d0 := kc _ _ hb c0
        have d1 := kc _ _ hb c1
        have OW1 := hideR (own_below OW.out hb)
        have HB1 := hideR (beyond HB.out hb)
        have HR1 := hideR (HR.out.later hb)
        clear hb c0 c1 OW HB HR
        go_upto_region 10 with (fail)
        go_cut [11, 12] (fun t r w2 => ∃ (t0 : Nat) (r0 : Bool), t = .int .u8 (t0 : Int) ∧ r = .bool r0 ∧ Hid (jn (o, N) (s.take p) = if r0 then some t0 else none) ∧ Hid (Below w1.heap.size w1 w2))
        case first =>
          clear ST FNN RT
          have r0 : (0 : Int) ≤ ((q - p : Nat) : Int) := by omega
          have r1 : ((q - p : Nat) : Int) ≤ (q : Int) := by omega
          have r2 : ((q - p : Nat) : Int) ≤ (cap' : Int) := by omega
          have r3 : q - (q - p) = p := by omega
          generalize q - p = R at *
          rcases OW1.out.2 with ⟨hv, _⟩ | ⟨g, cap2, cur, hv, h1, h2, h3, h4, h5, h6⟩
          · injection hv with v1 v2 v3
            subst v1 v2 v3
            obtain rfl : p = 0 := by omega
            obtain rfl : R = 0 := by omega
            have TC := hideR (fun (W : World) (hb : Below w1.heap.size w1 W) => turnedK none 0 [] W (RowV.nil _ _) (by simp))
            go_region_held3 (fun w2 => Below w1.heap.size w1 w2 ∧ w2.cell? ⟨b, off + m * 2, none⟩ = some (.int .u8 (o : Int)) ∧ w2.cell? ⟨b, off + m * 2 + 1, none⟩ = some (.int .i64 N))
              (first | exact ⟨by first | assumption | exact Below.refl _ _ | exact Below.drew (Below.refl _ _), by first | assumption | simp [go_sem, *], by first | assumption | simp [go_sem, *]⟩ | go_keep)
              (first
                | (go_at_call 76; refine (TC.out _ (by first | assumption | exact Below.refl _ _ | exact Below.drew (Below.refl _ _) | (apply Below.drew; assumption))).mono ?_; rintro e w2 ⟨v2, rfl, ho, hb⟩; obtain ⟨ad2, cp2, rfl, hR2, _⟩ := own_rowV ho; have s0 := kc ⟨b, off + m * 2, none⟩ (.int .u8 (o : Int)) hb (by first | assumption | simp [go_sem, *]); have s1 := kc ⟨b, off + m * 2 + 1, none⟩ (.int .i64 N) hb (by first | assumption | simp [go_sem, *]); have s2 := beyond (w := w1) (by first | assumption | exact Below.refl _ _ | exact Below.drew (Below.refl _ _) | (apply Below.drew; assumption)) hb; clear ho)
                | (go_at_call 62; refine (JM2.out _ _ _ (HB1.out.trans ((by first | assumption | exact Below.refl _ _ | exact Below.drew (Below.refl _ _) | (apply Below.drew; assumption) : Below w1.heap.size w1 _).mono HB1.out.size)) (by assumption)).mono ?_; rintro e w3 ⟨⟨t0, r0, rfl, hj⟩, hb3⟩; have s3 := kc ⟨b, off + m * 2, none⟩ (.int .u8 (o : Int)) hb3 (by first | assumption | simp [go_sem, *]); have s4 := kc ⟨b, off + m * 2 + 1, none⟩ (.int .i64 N) hb3 (by first | assumption | simp [go_sem, *]); have s5 := beyond (w := w1) (by first | assumption | exact Below.refl _ _ | exact Below.drew (Below.refl _ _) | (apply Below.drew; assumption)) hb3))
            all_goals go_wp2_with fail
            all_goals go_meet
            all_goals exact ⟨_, _, rfl, rfl, by assumption, by assumption⟩
          · injection hv with v1 v2 v3
            subst v1 v3
            clear h1 h2 h3 h5 h6 v2
            by_cases cR : cap' = R
            · obtain rfl : p = 0 := by omega
              have TC := hideR (fun (W : World) (hb : Below w1.heap.size w1 W) => turnedK (some ⟨g, 0, none⟩) 0 [] W (RowV.nil _ _) (by simp))
              clear HR1 RD
              subst cR
              have i2 : cap' - cap' = 0 := Nat.sub_self _
              go_region_held3 (fun w2 => Below w1.heap.size w1 w2 ∧ w2.cell? ⟨b, off + m * 2, none⟩ = some (.int .u8 (o : Int)) ∧ w2.cell? ⟨b, off + m * 2 + 1, none⟩ = some (.int .i64 N))
                (first | exact ⟨by first | assumption | exact Below.refl _ _ | exact Below.drew (Below.refl _ _), by first | assumption | simp [go_sem, *], by first | assumption | simp [go_sem, *]⟩ | go_keep)
                (first
                  | (go_at_call 76; refine (TC.out _ (by first | assumption | exact Below.refl _ _ | exact Below.drew (Below.refl _ _) | (apply Below.drew; assumption))).mono ?_; rintro e w2 ⟨v2, rfl, ho, hb⟩; obtain ⟨ad2, cp2, rfl, hR2, _⟩ := own_rowV ho; have s0 := kc ⟨b, off + m * 2, none⟩ (.int .u8 (o : Int)) hb (by first | assumption | simp [go_sem, *]); have s1 := kc ⟨b, off + m * 2 + 1, none⟩ (.int .i64 N) hb (by first | assumption | simp [go_sem, *]); have s2 := beyond (w := w1) (by first | assumption | exact Below.refl _ _ | exact Below.drew (Below.refl _ _) | (apply Below.drew; assumption)) hb; clear ho)
                  | (go_at_call 62; refine (JM2.out _ _ _ (HB1.out.trans ((by first | assumption | exact Below.refl _ _ | exact Below.drew (Below.refl _ _) | (apply Below.drew; assumption) : Below w1.heap.size w1 _).mono HB1.out.size)) (by assumption)).mono ?_; rintro e w3 ⟨⟨t0, r0, rfl, hj⟩, hb3⟩; have s3 := kc ⟨b, off + m * 2, none⟩ (.int .u8 (o : Int)) hb3 (by first | assumption | simp [go_sem, *]); have s4 := kc ⟨b, off + m * 2 + 1, none⟩ (.int .i64 N) hb3 (by first | assumption | simp [go_sem, *]); have s5 := beyond (w := w1) (by first | assumption | exact Below.refl _ _ | exact Below.drew (Below.refl _ _) | (apply Below.drew; assumption)) hb3))
              all_goals go_wp2_with fail
              all_goals go_meet
              all_goals exact ⟨_, _, rfl, rfl, by assumption, by assumption⟩
            · have HR2 : Hid (∀ W, Below w1.heap.size w1 W → RowV W (some ⟨g, R, none⟩) ((s.reverse.drop R).flatMap KindC)) := fun W hb => by
                have := (HR1.out.drop (R * 1)).later hb
                rw [flat_drop _ 1 (fun _ => rfl)] at this
                simpa using this
              clear HR1
              have TC := hideR (fun (W : World) (hb : Below w1.heap.size w1 W) => turnedK _ (cap' - R) (s.reverse.drop R) W (HR2.out W hb) (by have := HQ.out; simp; omega))
              have ln : (s.reverse.drop R).length = p := by have := HQ.out; simp; omega
              rw [ln, RD.out] at TC
              clear ln HR2
              go_region_held3 (fun w2 => Below w1.heap.size w1 w2 ∧ w2.cell? ⟨b, off + m * 2, none⟩ = some (.int .u8 (o : Int)) ∧ w2.cell? ⟨b, off + m * 2 + 1, none⟩ = some (.int .i64 N))
                (first | exact ⟨by first | assumption | exact Below.refl _ _ | exact Below.drew (Below.refl _ _), by first | assumption | simp [go_sem, *], by first | assumption | simp [go_sem, *]⟩ | go_keep)
                (first
                  | (go_at_call 76; refine (TC.out _ (by first | assumption | exact Below.refl _ _ | exact Below.drew (Below.refl _ _) | (apply Below.drew; assumption))).mono ?_; rintro e w2 ⟨v2, rfl, ho, hb⟩; obtain ⟨ad2, cp2, rfl, hR2, _⟩ := own_rowV ho; have s0 := kc ⟨b, off + m * 2, none⟩ (.int .u8 (o : Int)) hb (by first | assumption | simp [go_sem, *]); have s1 := kc ⟨b, off + m * 2 + 1, none⟩ (.int .i64 N) hb (by first | assumption | simp [go_sem, *]); have s2 := beyond (w := w1) (by first | assumption | exact Below.refl _ _ | exact Below.drew (Below.refl _ _) | (apply Below.drew; assumption)) hb; clear ho)
                  | (go_at_call 62; refine (JM2.out _ _ _ (HB1.out.trans ((by first | assumption | exact Below.refl _ _ | exact Below.drew (Below.refl _ _) | (apply Below.drew; assumption) : Below w1.heap.size w1 _).mono HB1.out.size)) (by assumption)).mono ?_; rintro e w3 ⟨⟨t0, r0, rfl, hj⟩, hb3⟩; have s3 := kc ⟨b, off + m * 2, none⟩ (.int .u8 (o : Int)) hb3 (by first | assumption | simp [go_sem, *]); have s4 := kc ⟨b, off + m * 2 + 1, none⟩ (.int .i64 N) hb3 (by first | assumption | simp [go_sem, *]); have s5 := beyond (w := w1) (by first | assumption | exact Below.refl _ _ | exact Below.drew (Below.refl _ _) | (apply Below.drew; assumption)) hb3))
              all_goals go_wp2_with fail
              all_goals go_meet
              all_goals exact ⟨_, _, rfl, rfl, by assumption, by assumption⟩
        case rest =>
          obtain ⟨t0, r0, rfl, rfl, hj, hb2⟩ := hcut
          clear JM2 d0 d1 RD
          rw [hj.out] at ST
          have OW2 := hideR (own_below OW1.out hb2.out)
          have HB2 := hideR (beyond HB1.out hb2.out)
          clear OW1 HR1 HB1 hb2 hj
          cases r0 with
          | false =>
            have FN := hideR (FNN.out ST.out)
            clear OW2 ST
            go_wp2_with fail
            exact bodyPost_ret (v := .tuple #[.int .u8 0, .bool false]) (by simp [results, Tryd.results61, go_sem]) rfl ⟨⟨0, false, rfl, FN.out⟩, HB2.out⟩
          | true =>
            have r0 : (0 : Int) ≤ ((q - p : Nat) : Int) := by omega
            have r1 : ((q - p : Nat) : Int) ≤ (q : Int) := by omega
            have r2 : ((q - p : Nat) : Int) ≤ (cap' : Int) := by omega
            have r3 := hideR (show q - p + 1 ≤ 65 by omega)
            have dl := hideR (show (s.drop p).length = q - p by have := HQ.out; simp; omega)
            clear FNN
            rcases OW2.out.2 with ⟨hv, _⟩ | ⟨g, cap2, cur, hv, h1, h2, h3, h4, h5, h6⟩
            · injection hv with v1 v2 v3
              subst v1 v2 v3
              obtain rfl : p = 0 := by omega
              have OW3 : Hid (wc.ownsRow w.heap.size 68 1 (.slice none 0 0) 0 ((s.drop 0).reverse.flatMap KindC)) := by
                have h := OW2.out
                rw [List.drop_zero]
                exact h
              have q0 := hideR (show (s.drop 0).length = 0 by have := HQ.out; simp; exact List.eq_nil_of_length_eq_zero this)
              clear OW2 dl RT
              go_wp2_with (at_builtin; refine wpList_append_own _ rfl _ _ 131 rfl w.heap.size 68 i0 (.int .u8 0) 1 1 Tryd.underlying131 hi hz0 hz1 hz2 rfl (by decide) _ _ _ rfl (OW3.out.alloc _) ⟨wc.heap.size, 0, none⟩ 1 1 [.int .u8 (t0 : Int)] rfl rfl (cell_one _ _ _) (by simp [Value.oneCell']) (by have := r3.out; simp only [maxLen]; omega) (by have := r3.out; omega) (by have := HB2.out.size; simp; omega) ?_; intro v' w3 hown' hgrow _; have OW4 := hideR hown'; have GR := hideR hgrow; clear hown' hgrow)
              have hbw := ((HB2.out.alloc HB2.out.size _).grown GR.out (by have := HB2.out.size; simp; omega) (fun k e => (OW3.out.lt k e).1))
              go_roundw
              case rel =>
                refine ⟨m, _, t0 :: s.drop 0, by have := kk.out; omega, rfl, by go_num, ⟨ST.out, ?_, hbw⟩⟩
                rw [List.length_cons, q0.out, List.reverse_cons, List.flatMap_append]
                exact OW4.out
              case measure => first | (simp [intOf]; done) | (simp [intOf]; omega)
            · injection hv with v1 v2 v3
              subst v1 v3
              clear h1 h2 h3 h5 h6 v2
              have OW3 := hideR (own_take OW2.out (q - p) (by omega))
              rw [flat_take _ 1 (fun _ => rfl), RT.out] at OW3
              clear OW2 RT
              generalize q - p = R at *
              go_wp2_with (at_builtin; refine wpList_append_own _ rfl _ _ 131 rfl w.heap.size 68 i0 (.int .u8 0) 1 1 Tryd.underlying131 hi hz0 hz1 hz2 rfl (by decide) _ _ _ rfl (OW3.out.alloc _) ⟨wc.heap.size, 0, none⟩ 1 1 [.int .u8 (t0 : Int)] rfl rfl (cell_one _ _ _) (by simp [Value.oneCell']) (by have := r3.out; simp only [maxLen]; omega) (by have := r3.out; omega) (by have := HB2.out.size; simp; omega) ?_; intro v' w3 hown' hgrow _; have OW4 := hideR hown'; have GR := hideR hgrow; clear hown' hgrow)
              have hbw := ((HB2.out.alloc HB2.out.size _).grown GR.out (by have := HB2.out.size; simp; omega) (fun k e => (OW3.out.lt k e).1))
              go_roundw
              case rel =>
                refine ⟨m, _, t0 :: s.drop p, by have := kk.out; omega, rfl, by go_num, ⟨ST.out, ?_, hbw⟩⟩
                rw [List.length_cons, dl.out, List.reverse_cons, List.flatMap_append]
                exact OW4.out
              case measure => first | (simp [intOf]; done) | (simp [intOf]; omega)
      · rw [if_pos (by omega)] at ST
        have FN := hideR (FNN.out ST.out)
        have i1 : (q : Int) < (p : Int) := by omega
        clear JM
        obtain ⟨ad', cap', rfl, hR, hc⟩ := own_rowV OW.out
        clear hR
        go_wp2_with fail
        refine OP.out.mono ?_
        rintro e w1 ⟨rfl, hb⟩
        go_wp2_with fail
        exact bodyPost_ret (v := .tuple #[.int .u8 0, .bool false]) (by simp [results, Tryd.results61, go_sem]) rfl ⟨⟨0, false, rfl, FN.out⟩, HB.out.trans (hb.mono HB.out.size)⟩
end Go.Proofs.YtgidlgmnkjoofaaDoor
