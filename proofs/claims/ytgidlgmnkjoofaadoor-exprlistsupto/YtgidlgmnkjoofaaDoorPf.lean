/-
  expr.fold, for texts.
-/
import Derived.Test.YtgidlgmnkjoofaaDoorPe
import Derived.Deep.RegionLaw
namespace Go.Proofs.YtgidlgmnkjoofaaDoor
open Go.RowKit
set_option linter.unusedVariables false
attribute [local go_sem] run_parts
/-- What is answered: something and true, or false. -/
def AnsT (e : Ending) (o : Option Txt) : Prop := ∃ (t : Txt) (r : Bool), e = .returned (.tuple #[.agg #[.string t.1, .int .i64 (t.2 : Int)], .bool r]) ∧ o = if r then some t else none
set_option maxRecDepth 100000 in
set_option maxHeartbeats 2000000 in
theorem foldT (ad : Option Addr) (cap : Nat) (l : List Node) (jn : Node → List Txt → Option Txt) (P : Value) (w : World) (hT : OpsT w) (hV : RowV w ad (l.flatMap NodeC)) (hl : l.length ≤ 64) (hI : ∀ n ∈ l, n.1 < 256)
    (JN : ∀ k x l', l.drop k = x :: l' → ∀ s, stk jn l' = some s → pt x ≤ s.length → ∀ ad cap W, Below w.heap.size w W → RowV W ad ((s.take (pt x)).flatMap TxtC) →
      Calls Tryd.prog 40 #[nodeV x, .slice ad (pt x) cap, P] W fun e W' => AnsT e (jn x (s.take (pt x))) ∧ Below W.heap.size W W') :
    Calls Tryd.prog 39 #[.slice ad l.length cap, .func (.func 40) #[] #[P]] w fun e w' => AnsT e (foldL jn l) ∧ Below w.heap.size w w' := by
  obtain ⟨i0, hi, hz0, hz1, hz2⟩ := info_parts infoT
  have HV := hideR hV
  have HT := hideR hT
  have HI := hideR hI
  have J := hideR JN
  clear hV hT JN hI
  generalize hn : l.length = n at *
  have HN := hideR hn
  clear hn
  have e0 : IntKind.i64.wrap ((n : Int) - 1) = (n : Int) - 1 := by rw [IntKind.wrap_i64]; omega
  go_enter Tryd.func39, Tryd.ntmps39
  go_wp2_with fail
  have HW := hideR (two w (.cells #[.string ⟨#[]⟩, .int .i64 0] 70) (.cells #[.string ⟨#[]⟩, .int .i64 0] 70))
  have PA : Hid (Pair ((w.alloc (.cells #[.string ⟨#[]⟩, .int .i64 0] 70)).alloc (.cells #[.string ⟨#[]⟩, .int .i64 0] 70)) w.heap.size (.string ⟨#[]⟩) (.int .i64 0)) := ⟨by simp [go_sem], by simp [go_sem], by simp [go_sem], by simp [go_sem]⟩
  have PB : Hid (Pair ((w.alloc (.cells #[.string ⟨#[]⟩, .int .i64 0] 70)).alloc (.cells #[.string ⟨#[]⟩, .int .i64 0] 70)) (w.heap.size + 1) (.string ⟨#[]⟩) (.int .i64 0)) := ⟨by simp [go_sem], by simp [go_sem], by simp [go_sem], by simp [go_sem]⟩
  have SZ : Hid (((w.alloc (.cells #[.string ⟨#[]⟩, .int .i64 0] 70)).alloc (.cells #[.string ⟨#[]⟩, .int .i64 0] 70)).heap.size = w.heap.size + 1 + 1) := by show _ = _; simp
  generalize ((w.alloc (.cells #[.string ⟨#[]⟩, .int .i64 0] 70)).alloc (.cells #[.string ⟨#[]⟩, .int .i64 0] 70)) = W0 at *
  go_loopw [7, 8] (fun o i wr => ∃ (k : Nat) (v : Value) (s : List Txt), k ≤ n ∧ o = v ∧ i = .int .i64 ((k : Int) - 1) ∧ Hid (stk jn (l.drop k) = some s ∧ wr.ownsRow (w.heap.size + 1 + 1) 70 2 v s.length (s.reverse.flatMap TxtC) ∧ Below (w.heap.size + 1 + 1) W0 wr)) (fun _ i _ => (intOf i + 1).toNat)
  case atStart => exact ⟨n, _, [], Nat.le_refl _, rfl, rfl, by
    rw [List.drop_of_length_le (by have := HN.out; omega)]
    exact ⟨rfl, World.ownsRow_nil _ _ _ _, Below.refl _ _⟩⟩
  case round =>
    obtain ⟨k, v, s, hk, hv, hi', E⟩ := hrel
    replace hv := hv.symm
    subst hv
    have P4 := hideR (PA.out.later E.out.2.2 (by omega))
    have P6 := hideR (PB.out.later E.out.2.2 (by omega))
    have HB : Hid (Below w.heap.size w wr) := HW.out.trans (E.out.2.2.mono (by omega))
    cases k with
    | zero =>
      rw [show ((0 : Nat) : Int) - 1 = -1 by rfl] at hi'
      subst hi'
      have ST := hideR E.out.1
      obtain ⟨ad', cap', rfl, hR, hc⟩ := own_rowV E.out.2.1
      have HR := hideR hR
      clear E hR
      rw [List.drop_zero] at ST
      obtain ⟨a0, a1, a2, a3⟩ := P4.out
      obtain ⟨b0, b1, b2, b3⟩ := P6.out
      by_cases c : s.length = 1
      · match s, c with
        | [t], _ =>
          have FO := hideR (fold_one jn l t ST.out)
          obtain ⟨x0, y0⟩ := t
          obtain ⟨b, off, rfl, c1⟩ := HR.out 0 (.string x0) rfl
          obtain ⟨b', off', e', c2⟩ := HR.out 1 (.int .i64 (y0 : Int)) rfl
          injection e' with e'
          injection e' with e1 e2
          subst e1 e2
          rw [Nat.add_zero] at c1
          clear HR
          go_wp2_with fail
          exact bodyPost_ret (v := .tuple #[.agg #[.string x0, .int .i64 (y0 : Int)], .bool true]) (by simp [results, Tryd.results39, go_sem, *]) rfl ⟨⟨(x0, y0), true, rfl, FO.out⟩, set2 HB.out (Nat.le_refl _) _ _⟩
      · have FN := hideR (fold_many jn l s ST.out c)
        have sl : (s.length : Int) ≤ 64 := by
          have := stk_len jn l s ST.out
          have := HN.out
          omega
        have c' : ¬ (s.length : Int) = 1 := by omega
        have c2 : ((s.length : Int) == 1) = false := by simpa using c'
        clear c
        generalize s.length = q at *
        go_wp2_with fail
        exact bodyPost_ret (v := .tuple #[.agg #[.string ⟨#[]⟩, .int .i64 0], .bool false]) (by simp [results, Tryd.results39, go_sem, *]) rfl ⟨⟨(⟨#[]⟩, 0), false, rfl, FN.out⟩, set2 HB.out (Nat.le_refl _) _ _⟩
    | succ m =>
      rw [show ((m + 1 : Nat) : Int) - 1 = (m : Int) by omega] at hi'
      subst hi'
      have ml : m < l.length := by rw [HN.out]; omega
      have D := hideR (List.drop_eq_getElem_cons ml)
      have XI := HI.out _ (List.getElem_mem ml)
      obtain ⟨b, off, rfl, cc⟩ := rowV_at (s := 2) (fun _ => rfl) (HV.out.later HB.out) (by decide) ml
      have OP := hideR (operatorOf_any (l[m]'ml).1 XI wr (ops_later HT.out HB.out))
      have JM := hideR (J.out m _ _ D.out s E.out.1)
      clear J HT HV HI
      generalize l[m]'ml = x at *
      obtain ⟨o, N⟩ := x
      have ST := hideR (stk_cons jn (o, N) _ E.out.1)
      rw [← D.out] at ST
      have ND := hideR (stk_none_drop jn l m)
      have hp : pt (o, N) = (opR o).1 := rfl
      have p2 := opR_parts o
      rw [hp] at ST JM
      clear D hp XI
      have c0 := cc 0 (by decide)
      have c1 := cc 1 (by decide)
      simp only [NodeC, List.getElem?_cons_zero, List.getElem?_cons_succ, Nat.add_zero] at c0 c1
      rw [← Nat.add_assoc] at c1
      clear cc
      have OW := hideR E.out.2.1
      have HX := hideR E.out.2.2
      have sl : s.length ≤ 64 := by
        have := stk_len jn _ s E.out.1
        have := HN.out
        simp at *
        omega
      clear E
      generalize opR o = r at *
      obtain ⟨p, tk, kd, sg, bd⟩ := r
      simp only at ST JM p2
      dsimp only [opV] at OP
      obtain ⟨q, hq⟩ : ∃ q, s.length = q := ⟨_, rfl⟩
      rw [hq] at ST JM OW sl
      have HQ := hideR hq
      clear hq
      have b1 : (m : Int) < (n : Int) := by omega
      have e1 : IntKind.i64.wrap ((m : Int) - 1) = (m : Int) - 1 := by rw [IntKind.wrap_i64]; omega
      have FNN := hideR (fun h => fold_none jn l (ND.out h))
      clear ND
      have kk := hideR hk
      clear hk e0
      by_cases c : p ≤ q
      · rw [if_neg (by omega)] at ST
        have JM2 := hideR (JM.out c)
        have RT := hideR (rev_take s p (by rw [HQ.out]; exact c))
        have RD := hideR (rev_drop s p (by rw [HQ.out]; exact c))
        rw [HQ.out] at RT RD
        clear JM
        have i1 : ¬ (q : Int) < (p : Int) := by omega
        have e2 : IntKind.i64.wrap ((q : Int) - (p : Int)) = ((q - p : Nat) : Int) := by rw [IntKind.wrap_i64]; omega
        obtain ⟨ad', cap', rfl, hR, hc⟩ := own_rowV OW.out
        have HR := hideR hR
        clear hR
        go_wp2_with fail
        refine OP.out.mono ?_
        rintro e w1 ⟨rfl, hb⟩
        clear OP
        have d0 := kc _ _ hb c0
        have d1 := kc _ _ hb c1
        have sz := HX.out.size
        have OW1 := hideR (own_below OW.out hb)
        have HB1 := hideR (beyond HB.out hb)
        have HX1 := hideR (HX.out.trans (hb.mono (by rw [SZ.out] at sz; exact sz)))
        have HR1 := hideR (HR.out.later hb)
        clear hb c0 c1 OW HB HR P4 P6 HX sz
        have n1 : ¬ w1.heap.size = b := by (have h0 : b < w1.heap.size := World.block_lt_of_cell? _ ⟨b, off + m * 2, none⟩ d0; omega)
        go_upto_region 10 with (fail)
        go_cut [11, 12] (fun t r w2 => ∃ (bt : Nat) (x0 : ByteArray) (y0 : Nat) (r0 : Bool), t = .pointer (some ⟨bt, 0, none⟩) ∧ r = .bool r0 ∧ w2.cell? ⟨bt, 0, none⟩ = some (.string x0) ∧ w2.cell? ⟨bt, 1, none⟩ = some (.int .i64 (y0 : Int)) ∧ Hid (jn (o, N) (s.take p) = if r0 then some (x0, y0) else none) ∧ Hid (Below w1.heap.size w1 w2))
        case first =>
          clear ST FNN RT
          have r0 : (0 : Int) ≤ ((q - p : Nat) : Int) := by omega
          have r1 : ((q - p : Nat) : Int) ≤ (q : Int) := by omega
          have r2 : ((q - p : Nat) : Int) ≤ (cap' : Int) := by omega
          have r3 : q - (q - p) = p := by omega
          generalize q - p = R at *
          rcases OW1.out.2 with ⟨hv, _⟩ | ⟨g, cap2, cur, hv, h1, h2, h3, h4, h5, h6⟩
          · injection hv with v1 v2 v3
            subst v1 v2 v3
            obtain rfl : p = 0 := by omega
            obtain rfl : R = 0 := by omega
            have TC := hideR (fun (W : World) (hb : Below w1.heap.size w1 W) => turnedT none 0 [] W (RowV.nil _ _) (by simp))
            go_region_held3 (fun w2 => w2.cell? ⟨b, off + m * 2, none⟩ = some (.int .u8 (o : Int)) ∧ w2.cell? ⟨b, off + m * 2 + 1, none⟩ = some (.int .i64 N))
              (first | exact ⟨by assumption, by assumption⟩ | with_reducible exact ⟨set_other (by assumption) (by assumption), set_other (by assumption) (by assumption)⟩ | with_reducible exact ⟨kc _ _ (single _ _) (by assumption), kc _ _ (single _ _) (by assumption)⟩ | go_keep)
              (first
                | (go_at_call 59; refine (TC.out _ (by first | with_reducible assumption | with_reducible exact Below.refl _ _ | with_reducible exact Below.drew (Below.refl _ _) | (with_reducible apply Below.drew; with_reducible assumption) | with_reducible exact Below.alloc (by with_reducible assumption) (Below.size (by with_reducible assumption)) _ | with_reducible exact Below.alloc (Below.drew (Below.refl _ _)) (Nat.le_refl _) _ | with_reducible exact Below.drew (Below.alloc (Below.refl _ _) (Nat.le_refl _) _) | with_reducible exact Below.alloc (Below.refl _ _) (Nat.le_refl _) _)).mono ?_; rintro e w2 ⟨v2, rfl, ho, hb⟩; obtain ⟨ad2, cp2, rfl, hR2, _⟩ := own_rowV ho; have s0 := kc ⟨b, off + m * 2, none⟩ (.int .u8 (o : Int)) hb (by first | with_reducible assumption | assumption | exact kc _ _ (single _ _) (by assumption) | simp [go_sem, *]); have s1 := kc ⟨b, off + m * 2 + 1, none⟩ (.int .i64 N) hb (by first | with_reducible assumption | assumption | exact kc _ _ (single _ _) (by assumption) | simp [go_sem, *]); have s2 := beyond (w := w1) (by first | with_reducible assumption | with_reducible exact Below.refl _ _ | with_reducible exact Below.drew (Below.refl _ _) | (with_reducible apply Below.drew; with_reducible assumption) | with_reducible exact Below.alloc (by with_reducible assumption) (Below.size (by with_reducible assumption)) _ | with_reducible exact Below.alloc (Below.drew (Below.refl _ _)) (Nat.le_refl _) _ | with_reducible exact Below.drew (Below.alloc (Below.refl _ _) (Nat.le_refl _) _) | with_reducible exact Below.alloc (Below.refl _ _) (Nat.le_refl _) _) hb; have n2 : ¬ w2.heap.size = b := (by have h0 : b < w2.heap.size := World.block_lt_of_cell? _ ⟨b, off + m * 2, none⟩ s0; omega); (first | (with_reducible (have zz := newP hb); obtain ⟨z0, z1, q0, q1, q2, q3⟩ := zz) | (with_reducible (have zz := newPD hb); obtain ⟨z0, z1, q0, q1, q2, q3⟩ := zz) | (with_reducible (have zz := newPI hb); obtain ⟨z0, z1, q0, q1, q2, q3⟩ := zz) | skip); clear ho)
                | (go_at_call 40; refine (JM2.out _ _ _ (HB1.out.trans (((by first | with_reducible assumption | with_reducible exact Below.refl _ _ | with_reducible exact Below.drew (Below.refl _ _) | (with_reducible apply Below.drew; with_reducible assumption) | with_reducible exact Below.alloc (by with_reducible assumption) (Below.size (by with_reducible assumption)) _ | with_reducible exact Below.alloc (Below.drew (Below.refl _ _)) (Nat.le_refl _) _ | with_reducible exact Below.drew (Below.alloc (Below.refl _ _) (Nat.le_refl _) _) | with_reducible exact Below.alloc (Below.refl _ _) (Nat.le_refl _) _) : Below w1.heap.size w1 _).mono HB1.out.size)) (by first | with_reducible assumption | assumption | exact RowV.later (by with_reducible assumption) (single _ _) | exact RowV.later (by assumption) (single _ _))).mono ?_; rintro e w3 ⟨⟨⟨x0, y0⟩, r0, rfl, hj⟩, hb3⟩; have s3 := kc ⟨b, off + m * 2, none⟩ (.int .u8 (o : Int)) hb3 (by first | with_reducible assumption | assumption | exact kc _ _ (single _ _) (by assumption) | simp [go_sem, *]); have s4 := kc ⟨b, off + m * 2 + 1, none⟩ (.int .i64 N) hb3 (by first | with_reducible assumption | assumption | exact kc _ _ (single _ _) (by assumption) | simp [go_sem, *]); have s5 := beyond (w := w1) (by first | with_reducible assumption | with_reducible exact Below.refl _ _ | with_reducible exact Below.drew (Below.refl _ _) | (with_reducible apply Below.drew; with_reducible assumption) | with_reducible exact Below.alloc (by with_reducible assumption) (Below.size (by with_reducible assumption)) _ | with_reducible exact Below.alloc (Below.drew (Below.refl _ _)) (Nat.le_refl _) _ | with_reducible exact Below.drew (Below.alloc (Below.refl _ _) (Nat.le_refl _) _) | with_reducible exact Below.alloc (Below.refl _ _) (Nat.le_refl _) _) hb3; have n3 : ¬ w3.heap.size = b := (by have h0 : b < w3.heap.size := World.block_lt_of_cell? _ ⟨b, off + m * 2, none⟩ s3; omega); (first | (with_reducible (have zz := carryP hb3 z0 z1 q0 q1); obtain ⟨Z0, Z1, Q0, Q1⟩ := zz; clear z0 z1 q0 q1) | (with_reducible (have zz := newP hb3); obtain ⟨Z0, Z1, Q0, Q1, Q2, Q3⟩ := zz) | (with_reducible (have zz := newPD hb3); obtain ⟨Z0, Z1, Q0, Q1, Q2, Q3⟩ := zz) | (with_reducible (have zz := newPI hb3); obtain ⟨Z0, Z1, Q0, Q1, Q2, Q3⟩ := zz) | skip)))
            all_goals go_wp2_with fail
            all_goals go_meet
            all_goals refine ⟨_, _, _, _, rfl, rfl, ?_, ?_, by assumption, ?_⟩
            all_goals first | with_reducible assumption | exact new_cell _ _ _ _ rfl | (simp [go_sem, *]; done) | exact hideR (Below.alloc (by assumption) (Below.size (by assumption)) _) | exact hideR (set2 (by assumption) (Nat.le_refl _) _ _) | exact hideR (set2 (by assumption) (Below.size (by assumption)) _ _)
          · injection hv with v1 v2 v3
            subst v1 v3
            clear h1 h2 h3 h5 h6 v2
            by_cases cR : cap' = R
            · obtain rfl : p = 0 := by omega
              have TC := hideR (fun (W : World) (hb : Below w1.heap.size w1 W) => turnedT (some ⟨g, 0, none⟩) 0 [] W (RowV.nil _ _) (by simp))
              clear HR1 RD
              subst cR
              have i2 : cap' - cap' = 0 := Nat.sub_self _
              go_region_held3 (fun w2 => w2.cell? ⟨b, off + m * 2, none⟩ = some (.int .u8 (o : Int)) ∧ w2.cell? ⟨b, off + m * 2 + 1, none⟩ = some (.int .i64 N))
                (first | exact ⟨by assumption, by assumption⟩ | with_reducible exact ⟨set_other (by assumption) (by assumption), set_other (by assumption) (by assumption)⟩ | with_reducible exact ⟨kc _ _ (single _ _) (by assumption), kc _ _ (single _ _) (by assumption)⟩ | go_keep)
                (first
                  | (go_at_call 59; refine (TC.out _ (by first | with_reducible assumption | with_reducible exact Below.refl _ _ | with_reducible exact Below.drew (Below.refl _ _) | (with_reducible apply Below.drew; with_reducible assumption) | with_reducible exact Below.alloc (by with_reducible assumption) (Below.size (by with_reducible assumption)) _ | with_reducible exact Below.alloc (Below.drew (Below.refl _ _)) (Nat.le_refl _) _ | with_reducible exact Below.drew (Below.alloc (Below.refl _ _) (Nat.le_refl _) _) | with_reducible exact Below.alloc (Below.refl _ _) (Nat.le_refl _) _)).mono ?_; rintro e w2 ⟨v2, rfl, ho, hb⟩; obtain ⟨ad2, cp2, rfl, hR2, _⟩ := own_rowV ho; have s0 := kc ⟨b, off + m * 2, none⟩ (.int .u8 (o : Int)) hb (by first | with_reducible assumption | assumption | exact kc _ _ (single _ _) (by assumption) | simp [go_sem, *]); have s1 := kc ⟨b, off + m * 2 + 1, none⟩ (.int .i64 N) hb (by first | with_reducible assumption | assumption | exact kc _ _ (single _ _) (by assumption) | simp [go_sem, *]); have s2 := beyond (w := w1) (by first | with_reducible assumption | with_reducible exact Below.refl _ _ | with_reducible exact Below.drew (Below.refl _ _) | (with_reducible apply Below.drew; with_reducible assumption) | with_reducible exact Below.alloc (by with_reducible assumption) (Below.size (by with_reducible assumption)) _ | with_reducible exact Below.alloc (Below.drew (Below.refl _ _)) (Nat.le_refl _) _ | with_reducible exact Below.drew (Below.alloc (Below.refl _ _) (Nat.le_refl _) _) | with_reducible exact Below.alloc (Below.refl _ _) (Nat.le_refl _) _) hb; have n2 : ¬ w2.heap.size = b := (by have h0 : b < w2.heap.size := World.block_lt_of_cell? _ ⟨b, off + m * 2, none⟩ s0; omega); (first | (with_reducible (have zz := newP hb); obtain ⟨z0, z1, q0, q1, q2, q3⟩ := zz) | (with_reducible (have zz := newPD hb); obtain ⟨z0, z1, q0, q1, q2, q3⟩ := zz) | (with_reducible (have zz := newPI hb); obtain ⟨z0, z1, q0, q1, q2, q3⟩ := zz) | skip); clear ho)
                  | (go_at_call 40; refine (JM2.out _ _ _ (HB1.out.trans (((by first | with_reducible assumption | with_reducible exact Below.refl _ _ | with_reducible exact Below.drew (Below.refl _ _) | (with_reducible apply Below.drew; with_reducible assumption) | with_reducible exact Below.alloc (by with_reducible assumption) (Below.size (by with_reducible assumption)) _ | with_reducible exact Below.alloc (Below.drew (Below.refl _ _)) (Nat.le_refl _) _ | with_reducible exact Below.drew (Below.alloc (Below.refl _ _) (Nat.le_refl _) _) | with_reducible exact Below.alloc (Below.refl _ _) (Nat.le_refl _) _) : Below w1.heap.size w1 _).mono HB1.out.size)) (by first | with_reducible assumption | assumption | exact RowV.later (by with_reducible assumption) (single _ _) | exact RowV.later (by assumption) (single _ _))).mono ?_; rintro e w3 ⟨⟨⟨x0, y0⟩, r0, rfl, hj⟩, hb3⟩; have s3 := kc ⟨b, off + m * 2, none⟩ (.int .u8 (o : Int)) hb3 (by first | with_reducible assumption | assumption | exact kc _ _ (single _ _) (by assumption) | simp [go_sem, *]); have s4 := kc ⟨b, off + m * 2 + 1, none⟩ (.int .i64 N) hb3 (by first | with_reducible assumption | assumption | exact kc _ _ (single _ _) (by assumption) | simp [go_sem, *]); have s5 := beyond (w := w1) (by first | with_reducible assumption | with_reducible exact Below.refl _ _ | with_reducible exact Below.drew (Below.refl _ _) | (with_reducible apply Below.drew; with_reducible assumption) | with_reducible exact Below.alloc (by with_reducible assumption) (Below.size (by with_reducible assumption)) _ | with_reducible exact Below.alloc (Below.drew (Below.refl _ _)) (Nat.le_refl _) _ | with_reducible exact Below.drew (Below.alloc (Below.refl _ _) (Nat.le_refl _) _) | with_reducible exact Below.alloc (Below.refl _ _) (Nat.le_refl _) _) hb3; have n3 : ¬ w3.heap.size = b := (by have h0 : b < w3.heap.size := World.block_lt_of_cell? _ ⟨b, off + m * 2, none⟩ s3; omega); (first | (with_reducible (have zz := carryP hb3 z0 z1 q0 q1); obtain ⟨Z0, Z1, Q0, Q1⟩ := zz; clear z0 z1 q0 q1) | (with_reducible (have zz := newP hb3); obtain ⟨Z0, Z1, Q0, Q1, Q2, Q3⟩ := zz) | (with_reducible (have zz := newPD hb3); obtain ⟨Z0, Z1, Q0, Q1, Q2, Q3⟩ := zz) | (with_reducible (have zz := newPI hb3); obtain ⟨Z0, Z1, Q0, Q1, Q2, Q3⟩ := zz) | skip)))
              all_goals go_wp2_with fail
              all_goals go_meet
              all_goals refine ⟨_, _, _, _, rfl, rfl, ?_, ?_, by assumption, ?_⟩
              all_goals first | with_reducible assumption | exact new_cell _ _ _ _ rfl | (simp [go_sem, *]; done) | exact hideR (Below.alloc (by assumption) (Below.size (by assumption)) _) | exact hideR (set2 (by assumption) (Nat.le_refl _) _ _) | exact hideR (set2 (by assumption) (Below.size (by assumption)) _ _)
            · have HR2 : Hid (∀ W, Below w1.heap.size w1 W → RowV W (some ⟨g, R * 2, none⟩) ((s.reverse.drop R).flatMap TxtC)) := fun W hb => by
                have := (HR1.out.drop (R * 2)).later hb
                rw [flat_drop _ 2 (fun _ => rfl)] at this
                simpa using this
              clear HR1
              have TC := hideR (fun (W : World) (hb : Below w1.heap.size w1 W) => turnedT _ (cap' - R) (s.reverse.drop R) W (HR2.out W hb) (by have := HQ.out; simp; omega))
              have ln : (s.reverse.drop R).length = p := by have := HQ.out; simp; omega
              rw [ln, RD.out] at TC
              clear ln HR2
              go_region_held3 (fun w2 => w2.cell? ⟨b, off + m * 2, none⟩ = some (.int .u8 (o : Int)) ∧ w2.cell? ⟨b, off + m * 2 + 1, none⟩ = some (.int .i64 N))
                (first | exact ⟨by assumption, by assumption⟩ | with_reducible exact ⟨set_other (by assumption) (by assumption), set_other (by assumption) (by assumption)⟩ | with_reducible exact ⟨kc _ _ (single _ _) (by assumption), kc _ _ (single _ _) (by assumption)⟩ | go_keep)
                (first
                  | (go_at_call 59; refine (TC.out _ (by first | with_reducible assumption | with_reducible exact Below.refl _ _ | with_reducible exact Below.drew (Below.refl _ _) | (with_reducible apply Below.drew; with_reducible assumption) | with_reducible exact Below.alloc (by with_reducible assumption) (Below.size (by with_reducible assumption)) _ | with_reducible exact Below.alloc (Below.drew (Below.refl _ _)) (Nat.le_refl _) _ | with_reducible exact Below.drew (Below.alloc (Below.refl _ _) (Nat.le_refl _) _) | with_reducible exact Below.alloc (Below.refl _ _) (Nat.le_refl _) _)).mono ?_; rintro e w2 ⟨v2, rfl, ho, hb⟩; obtain ⟨ad2, cp2, rfl, hR2, _⟩ := own_rowV ho; have s0 := kc ⟨b, off + m * 2, none⟩ (.int .u8 (o : Int)) hb (by first | with_reducible assumption | assumption | exact kc _ _ (single _ _) (by assumption) | simp [go_sem, *]); have s1 := kc ⟨b, off + m * 2 + 1, none⟩ (.int .i64 N) hb (by first | with_reducible assumption | assumption | exact kc _ _ (single _ _) (by assumption) | simp [go_sem, *]); have s2 := beyond (w := w1) (by first | with_reducible assumption | with_reducible exact Below.refl _ _ | with_reducible exact Below.drew (Below.refl _ _) | (with_reducible apply Below.drew; with_reducible assumption) | with_reducible exact Below.alloc (by with_reducible assumption) (Below.size (by with_reducible assumption)) _ | with_reducible exact Below.alloc (Below.drew (Below.refl _ _)) (Nat.le_refl _) _ | with_reducible exact Below.drew (Below.alloc (Below.refl _ _) (Nat.le_refl _) _) | with_reducible exact Below.alloc (Below.refl _ _) (Nat.le_refl _) _) hb; have n2 : ¬ w2.heap.size = b := (by have h0 : b < w2.heap.size := World.block_lt_of_cell? _ ⟨b, off + m * 2, none⟩ s0; omega); (first | (with_reducible (have zz := newP hb); obtain ⟨z0, z1, q0, q1, q2, q3⟩ := zz) | (with_reducible (have zz := newPD hb); obtain ⟨z0, z1, q0, q1, q2, q3⟩ := zz) | (with_reducible (have zz := newPI hb); obtain ⟨z0, z1, q0, q1, q2, q3⟩ := zz) | skip); clear ho)
                  | (go_at_call 40; refine (JM2.out _ _ _ (HB1.out.trans (((by first | with_reducible assumption | with_reducible exact Below.refl _ _ | with_reducible exact Below.drew (Below.refl _ _) | (with_reducible apply Below.drew; with_reducible assumption) | with_reducible exact Below.alloc (by with_reducible assumption) (Below.size (by with_reducible assumption)) _ | with_reducible exact Below.alloc (Below.drew (Below.refl _ _)) (Nat.le_refl _) _ | with_reducible exact Below.drew (Below.alloc (Below.refl _ _) (Nat.le_refl _) _) | with_reducible exact Below.alloc (Below.refl _ _) (Nat.le_refl _) _) : Below w1.heap.size w1 _).mono HB1.out.size)) (by first | with_reducible assumption | assumption | exact RowV.later (by with_reducible assumption) (single _ _) | exact RowV.later (by assumption) (single _ _))).mono ?_; rintro e w3 ⟨⟨⟨x0, y0⟩, r0, rfl, hj⟩, hb3⟩; have s3 := kc ⟨b, off + m * 2, none⟩ (.int .u8 (o : Int)) hb3 (by first | with_reducible assumption | assumption | exact kc _ _ (single _ _) (by assumption) | simp [go_sem, *]); have s4 := kc ⟨b, off + m * 2 + 1, none⟩ (.int .i64 N) hb3 (by first | with_reducible assumption | assumption | exact kc _ _ (single _ _) (by assumption) | simp [go_sem, *]); have s5 := beyond (w := w1) (by first | with_reducible assumption | with_reducible exact Below.refl _ _ | with_reducible exact Below.drew (Below.refl _ _) | (with_reducible apply Below.drew; with_reducible assumption) | with_reducible exact Below.alloc (by with_reducible assumption) (Below.size (by with_reducible assumption)) _ | with_reducible exact Below.alloc (Below.drew (Below.refl _ _)) (Nat.le_refl _) _ | with_reducible exact Below.drew (Below.alloc (Below.refl _ _) (Nat.le_refl _) _) | with_reducible exact Below.alloc (Below.refl _ _) (Nat.le_refl _) _) hb3; have n3 : ¬ w3.heap.size = b := (by have h0 : b < w3.heap.size := World.block_lt_of_cell? _ ⟨b, off + m * 2, none⟩ s3; omega); (first | (with_reducible (have zz := carryP hb3 z0 z1 q0 q1); obtain ⟨Z0, Z1, Q0, Q1⟩ := zz; clear z0 z1 q0 q1) | (with_reducible (have zz := newP hb3); obtain ⟨Z0, Z1, Q0, Q1, Q2, Q3⟩ := zz) | (with_reducible (have zz := newPD hb3); obtain ⟨Z0, Z1, Q0, Q1, Q2, Q3⟩ := zz) | (with_reducible (have zz := newPI hb3); obtain ⟨Z0, Z1, Q0, Q1, Q2, Q3⟩ := zz) | skip)))
              all_goals go_wp2_with fail
              all_goals go_meet
              all_goals refine ⟨_, _, _, _, rfl, rfl, ?_, ?_, by assumption, ?_⟩
              all_goals first | with_reducible assumption | exact new_cell _ _ _ _ rfl | (simp [go_sem, *]; done) | exact hideR (Below.alloc (by assumption) (Below.size (by assumption)) _) | exact hideR (set2 (by assumption) (Nat.le_refl _) _ _) | exact hideR (set2 (by assumption) (Below.size (by assumption)) _ _)
        case rest =>
          obtain ⟨bt, x0, y0, r0, rfl, rfl, g0, g1, hj, hb2⟩ := hcut
          clear JM2 d0 d1 RD n1
          rw [hj.out] at ST
          have OW2 := hideR (own_below OW1.out hb2.out)
          have HB2 := hideR (beyond HB1.out hb2.out)
          have HX2 := hideR (HX1.out.trans (hb2.out.mono (by have := HX1.out.size; rw [SZ.out] at this; exact this)))
          clear OW1 HR1 HB1 hb2 hj HX1
          have p4 := PA.out.later HX2.out (by omega)
          have p6 := PB.out.later HX2.out (by omega)
          have SZ2 := hideR (Nat.le_trans (Nat.le_of_eq SZ.out.symm) HX2.out.size)
          cases r0 with
          | false =>
            have FN := hideR (FNN.out ST.out)
            clear OW2 ST
            obtain ⟨a0, a1, a2, a3⟩ := p4
            obtain ⟨b0, b1, b2, b3⟩ := p6
            go_wp2_with fail
            exact bodyPost_ret (v := .tuple #[.agg #[.string ⟨#[]⟩, .int .i64 0], .bool false]) (by simp [results, Tryd.results39, go_sem, *]) rfl ⟨⟨(⟨#[]⟩, 0), false, rfl, FN.out⟩, set2 HB2.out (Nat.le_refl _) _ _⟩
          | true =>
            clear p4 p6
            have r0 : (0 : Int) ≤ ((q - p : Nat) : Int) := by omega
            have r1 : ((q - p : Nat) : Int) ≤ (q : Int) := by omega
            have r2 : ((q - p : Nat) : Int) ≤ (cap' : Int) := by omega
            have r3 := hideR (show q - p + 1 ≤ 65 by omega)
            have dl := hideR (show (s.drop p).length = q - p by have := HQ.out; simp; omega)
            clear FNN
            rcases OW2.out.2 with ⟨hv, _⟩ | ⟨g, cap2, cur, hv, h1, h2, h3, h4, h5, h6⟩
            · injection hv with v1 v2 v3
              subst v1 v2 v3
              obtain rfl : p = 0 := by omega
              have OW3 : Hid (wc.ownsRow (w.heap.size + 1 + 1) 70 2 (.slice none 0 0) 0 ((s.drop 0).reverse.flatMap TxtC)) := by
                have h := OW2.out
                rw [List.drop_zero]
                exact h
              have q0 := hideR (show (s.drop 0).length = 0 by have := HQ.out; simp; exact List.eq_nil_of_length_eq_zero this)
              clear OW2 dl RT
              go_upto_region 13 with (fail)
              go_region_law (refine step_own rfl (.tmp 54) (.tmp 56) 73 rfl (w.heap.size + 1 + 1) 70 i0 (.agg #[.string ⟨#[]⟩, .int .i64 0]) 2 24 Tryd.underlying73 hi hz0 hz1 hz2 rfl (by decide) (.slice none 0 0) 0 ((s.drop 0).reverse.flatMap TxtC) (by simp [Act.eval]) (by first | exact OW3.out.alloc _ | exact (OW3.out.drew).alloc _ | exact (OW3.out.alloc _).drew) ⟨wc.heap.size, 0, none⟩ 1 1 [.string x0, .int .i64 (y0 : Int)] (by simp [Act.eval]) rfl (by first | exact cell_two wc _ _ _ | exact cell_two wc.drew _ _ _) (by simp [Value.oneCell']) (by have := r3.out; simp only [maxLen]; omega) (by have := r3.out; omega) (by have := SZ2.out; simp; omega) ?_; intro v' w3 hown' hgrow; have OW4 := hideR hown'; have GR := hideR hgrow; clear hown' hgrow)
              all_goals
                have hbw : Hid (Below (w.heap.size + 1 + 1) W0 w3) := by
                  first
                  | exact hideR (((HX2.out.alloc SZ2.out _).drew).grown GR.out (by have := SZ2.out; simp; omega) (fun k e => (OW3.out.lt k e).1))
                  | exact hideR (((HX2.out.drew).alloc SZ2.out _).grown GR.out (by have := SZ2.out; simp; omega) (fun k e => (OW3.out.lt k e).1))
                  | exact hideR ((HX2.out.alloc SZ2.out _).grown GR.out (by have := SZ2.out; simp; omega) (fun k e => (OW3.out.lt k e).1))
                clear GR
                go_wp2_with fail
                go_roundw
                case rel =>
                  refine ⟨m, _, (x0, y0) :: s.drop 0, by have := kk.out; omega, rfl, by go_num, ⟨ST.out, ?_, hbw.out⟩⟩
                  rw [List.length_cons, q0.out, List.reverse_cons, List.flatMap_append]
                  exact OW4.out
                case measure => first | (simp [intOf]; done) | (simp [intOf]; omega)
            · injection hv with v1 v2 v3
              subst v1 v3
              clear h1 h2 h3 h5 h6 v2
              have OW3 := hideR (own_take OW2.out (q - p) (by omega))
              rw [flat_take _ 2 (fun _ => rfl), RT.out] at OW3
              clear OW2 RT
              generalize q - p = R at *
              go_upto_region 13 with (fail)
              go_region_law (refine step_own rfl (.tmp 54) (.tmp 56) 73 rfl (w.heap.size + 1 + 1) 70 i0 (.agg #[.string ⟨#[]⟩, .int .i64 0]) 2 24 Tryd.underlying73 hi hz0 hz1 hz2 rfl (by decide) (.slice (some ⟨g, 0, none⟩) R cap') R ((s.drop p).reverse.flatMap TxtC) (by simp [Act.eval]) (by first | exact OW3.out.alloc _ | exact (OW3.out.drew).alloc _ | exact (OW3.out.alloc _).drew) ⟨wc.heap.size, 0, none⟩ 1 1 [.string x0, .int .i64 (y0 : Int)] (by simp [Act.eval]) rfl (by first | exact cell_two wc _ _ _ | exact cell_two wc.drew _ _ _) (by simp [Value.oneCell']) (by have := r3.out; simp only [maxLen]; omega) (by have := r3.out; omega) (by have := SZ2.out; simp; omega) ?_; intro v' w3 hown' hgrow; have OW4 := hideR hown'; have GR := hideR hgrow; clear hown' hgrow)
              all_goals
                have hbw : Hid (Below (w.heap.size + 1 + 1) W0 w3) := by
                  first
                  | exact hideR (((HX2.out.alloc SZ2.out _).drew).grown GR.out (by have := SZ2.out; simp; omega) (fun k e => (OW3.out.lt k e).1))
                  | exact hideR (((HX2.out.drew).alloc SZ2.out _).grown GR.out (by have := SZ2.out; simp; omega) (fun k e => (OW3.out.lt k e).1))
                  | exact hideR ((HX2.out.alloc SZ2.out _).grown GR.out (by have := SZ2.out; simp; omega) (fun k e => (OW3.out.lt k e).1))
                clear GR
                go_wp2_with fail
                go_roundw
                case rel =>
                  refine ⟨m, _, (x0, y0) :: s.drop p, by have := kk.out; omega, rfl, by go_num, ⟨ST.out, ?_, hbw.out⟩⟩
                  rw [List.length_cons, dl.out, List.reverse_cons, List.flatMap_append]
                  exact OW4.out
                case measure => first | (simp [intOf]; done) | (simp [intOf]; omega)
      · rw [if_pos (by omega)] at ST
        have FN := hideR (FNN.out ST.out)
        have i1 : (q : Int) < (p : Int) := by omega
        clear JM
        obtain ⟨ad', cap', rfl, hR, hc⟩ := own_rowV OW.out
        clear hR
        go_wp2_with fail
        refine OP.out.mono ?_
        rintro e w1 ⟨rfl, hb⟩
        have p4 := P4.out.later hb (World.block_lt_of_cell? wr ⟨_, 0, none⟩ P4.out.c0)
        have p6 := P6.out.later hb (World.block_lt_of_cell? wr ⟨_, 0, none⟩ P6.out.c0)
        obtain ⟨a0, a1, a2, a3⟩ := p4
        obtain ⟨b0, b1, b2, b3⟩ := p6
        have hB := beyond HB.out hb
        clear hb OP
        go_wp2_with fail
        exact bodyPost_ret (v := .tuple #[.agg #[.string ⟨#[]⟩, .int .i64 0], .bool false]) (by simp [results, Tryd.results39, go_sem, *]) rfl ⟨⟨(⟨#[]⟩, 0), false, rfl, FN.out⟩, set2 hB (Nat.le_refl _) _ _⟩
end Go.Proofs.YtgidlgmnkjoofaaDoor
