/-
  Spans of delays: behind a delay a valuation is in the zone just if the delay is of the span.
-/
import Derived.Test.YtondgencdcimjaaPtLz
import Derived.Test.YtondgencdcimjaaPtKz
import Derived.Test.YtondgencdcimjaaXlz
namespace Go.Proofs.Ytondgencdcimjaa
open Go.RowKit Go.Shelf
set_option linter.unusedVariables false
set_option maxRecDepth 100000
theorem right_one (n : Int) : rightR n 1 = true := right_iff.2 ⟨by decide, (co_all (sz_nn _) (by decide)).2 fun k k0 _ h => Int.eq_one_of_dvd_one k0 h⟩
theorem can_small {P Q : Int} (q : 0 < Q) (q1 : Q ≤ 4611686018427387904) (p0 : -4611686018427387904 ≤ P) (p1 : P ≤ 4611686018427387904) : (canR P Q).2.2 = 0 := by
  show heldE _ _ _ = 0
  unfold heldE canHold mostOf
  have l1 : sz P / gcdI (sz P) Q ≤ sz P := Int.ediv_le_self _ (sz_nn P)
  have l2 : Q / gcdI (sz P) Q ≤ Q := Int.ediv_le_self _ (by omega)
  have l3 : sz P ≤ 4611686018427387904 := by unfold sz; split <;> omega
  generalize sz P / gcdI (sz P) Q = x at *
  generalize Q / gcdI (sz P) Q = y at *
  rw [if_pos]
  rw [Bool.and_eq_true]
  exact ⟨decide_eq_true (by split <;> omega), decide_eq_true (by omega)⟩
/-- What holds of all ends holds of those that are left. -/
theorem ends_all {n mm : Nat} {c : Row} {L : Rats} (G : End → Prop) (hU : ∀ k, k < mm → isUp n c k → G (endUp n c L k)) (hF : ∀ k, k < mm → isFrom n c k → G (endFrom n c L k)) (l : List (Fin mm)) (s : DSt) (hl : G s.lo) (hh : s.fv = false → G s.hi) :
    G (l.foldl (fun s k => dStep n c L s k.val) s).lo ∧ ((l.foldl (fun s k => dStep n c L s k.val) s).fv = false → G (l.foldl (fun s k => dStep n c L s k.val) s).hi) := by
  induction l generalizing s with
  | nil => exact ⟨hl, hh⟩
  | cons k l ih =>
    rw [List.foldl_cons]
    have key : G (dStep n c L s k.val).lo ∧ ((dStep n c L s k.val).fv = false → G (dStep n c L s k.val).hi) := by
      unfold dStep
      by_cases f : finB (c k.val) = true
      · rw [if_pos f]
        by_cases u : ¬ k.val / (n + 1) = 0 ∧ k.val % (n + 1) = 0
        · rw [if_pos u]
          have := hU k.val k.isLt ⟨f, u⟩
          unfold upS
          split
          · exact ⟨hl, fun _ => this⟩
          · split
            · exact ⟨hl, fun _ => this⟩
            · exact ⟨hl, hh⟩
        · rw [if_neg u]
          by_cases g : k.val / (n + 1) = 0 ∧ ¬ k.val % (n + 1) = 0
          · rw [if_pos g]
            have := hF k.val k.isLt ⟨f, g⟩
            unfold fromS
            split
            · exact ⟨this, hh⟩
            · exact ⟨hl, hh⟩
          · rw [if_neg g]
            exact ⟨hl, hh⟩
      · rw [if_neg f]
        exact ⟨hl, hh⟩
    exact ih _ key.1 key.2
/-- An end that can be held. -/
structure SmallE (e : End) : Prop where
  r : rightR e.cn e.cd = true
  c0 : 0 ≤ e.cn
  c1 : e.cn ≤ 1099511627776
  d : e.cd ≤ 1000
  l : -300000000 ≤ e.n
  u : e.n ≤ 300000000
theorem small_del {e : End} (h : SmallE e) : (delT e).2.2 = 0 ∧ rightR (delT e).1 (delT e).2.1 = true ∧ I64 (delT e).1 ∧ I64 (delT e).2.1 ∧ (delT e).1 * e.cd = (e.n * e.cd - e.cn) * (delT e).2.1 := by
  have p := (right_pos h.r).1
  have e0 : delT e = canR (e.n * e.cd - e.cn * 1) (1 * e.cd) := by
    unfold delT subT
    rw [right_one, h.r]
    rfl
  rw [Int.mul_one, Int.one_mul] at e0
  have b1 : e.n * e.cd ≤ 300000000 * e.cd := Int.mul_le_mul_of_nonneg_right h.u (by omega)
  have b2 : -300000000 * e.cd ≤ e.n * e.cd := Int.mul_le_mul_of_nonneg_right h.l (by omega)
  have c0 := h.c0
  have c1 := h.c1
  have d := h.d
  have z : (canR (e.n * e.cd - e.cn) e.cd).2.2 = 0 := can_small p (by omega) (by omega) (by omega)
  obtain ⟨k1, k2, k3, k4, k5⟩ := can_ok p z
  rw [e0]
  exact ⟨z, k1, ⟨k3, k4⟩, ⟨by have := (right_pos k1).1; omega, k5⟩, k2⟩
/-- What the law makes of a span and a delay. -/
def spanOf (ln ld hn hd : Int) (li hi fv ok : Bool) (dn dd : Int) : Bool :=
  (ok && (decide (cmpT ln ld dn dd < 0) || (decide (cmpT ln ld dn dd = 0) && li))) && (fv || (decide (cmpT dn dd hn hd < 0) || (decide (cmpT dn dd hn hd = 0) && hi)))
theorem cmpV_sign (an ad bn bd : Int) : (cmpV an ad bn bd < 0 ↔ an * bd < bn * ad) ∧ (cmpV an ad bn bd = 0 ↔ an * bd = bn * ad) := by
  unfold cmpV
  split
  · constructor <;> constructor <;> intro h <;> omega
  · split <;> (constructor <;> constructor <;> intro h <;> omega)
theorem lo_says {M : Int} {e : End} {dn dd : Int} (m : 0 < M) (h : SmallE e) (f : Fits M e) (hd : rightR dn dd = true) (dv : dd ∣ M) :
    (decide (cmpT (delT e).1 (delT e).2.1 dn dd < 0) || (decide (cmpT (delT e).1 (delT e).2.1 dn dd = 0) && e.i)) = true ↔ Behind M (parts M dn dd) e := by
  obtain ⟨z, k1, _, _, k2⟩ := small_del h
  have pd := (right_pos hd).1
  have pk := (right_pos k1).1
  have pc := f.p
  have eP : endP M e * (delT e).2.1 = (delT e).1 * M := by
    have e1 := endP_eq f
    have : endP M e * (delT e).2.1 * e.cd = (delT e).1 * M * e.cd := by
      rw [Int.mul_assoc, Int.mul_comm (delT e).2.1 e.cd, ← Int.mul_assoc, e1, Int.mul_assoc, Int.mul_comm M, ← Int.mul_assoc, ← k2, Int.mul_assoc, Int.mul_comm e.cd M, ← Int.mul_assoc]
    exact Int.eq_of_mul_eq_mul_right (by omega) this
  obtain ⟨h1, h2⟩ := parts_lt m pk pd eP (parts_eq (a := dn) dv)
  obtain ⟨c1, c2⟩ := cmpV_sign (delT e).1 (delT e).2.1 dn dd
  unfold cmpT Behind
  rw [k1, hd]
  simp only [Bool.and_self, if_true, Bool.or_eq_true, Bool.and_eq_true, decide_eq_true_eq]
  rw [c1, c2, h1, h2]
theorem hi_says {M : Int} {e : End} {dn dd : Int} (m : 0 < M) (h : SmallE e) (f : Fits M e) (hd : rightR dn dd = true) (dv : dd ∣ M) :
    (decide (cmpT dn dd (delT e).1 (delT e).2.1 < 0) || (decide (cmpT dn dd (delT e).1 (delT e).2.1 = 0) && e.i)) = true ↔ Ahead M (parts M dn dd) e := by
  obtain ⟨z, k1, _, _, k2⟩ := small_del h
  have pd := (right_pos hd).1
  have pk := (right_pos k1).1
  have pc := f.p
  have eP : endP M e * (delT e).2.1 = (delT e).1 * M := by
    have e1 := endP_eq f
    have : endP M e * (delT e).2.1 * e.cd = (delT e).1 * M * e.cd := by
      rw [Int.mul_assoc, Int.mul_comm (delT e).2.1 e.cd, ← Int.mul_assoc, e1, Int.mul_assoc, Int.mul_comm M, ← Int.mul_assoc, ← k2, Int.mul_assoc, Int.mul_comm e.cd M, ← Int.mul_assoc]
    exact Int.eq_of_mul_eq_mul_right (by omega) this
  obtain ⟨h1, h2⟩ := parts_lt m pd pk (parts_eq (a := dn) dv) eP
  obtain ⟨c1, c2⟩ := cmpV_sign dn dd (delT e).1 (delT e).2.1
  unfold cmpT Ahead
  rw [k1, hd]
  simp only [Bool.and_self, if_true, Bool.or_eq_true, Bool.and_eq_true, decide_eq_true_eq]
  rw [c1, c2, h1, h2]
/-- A wait, clock by clock. -/
theorem wait_ok {an ad dn dd : Int} (h : okR an ad = true) (hd : okR dn dd = true) (z : (addT an ad dn dd).2.2 = 0) :
    okR (addT an ad dn dd).1 (addT an ad dn dd).2.1 = true ∧ I64 (addT an ad dn dd).1 ∧ I64 (addT an ad dn dd).2.1 ∧ (addT an ad dn dd).1 * (ad * dd) = (an * dd + dn * ad) * (addT an ad dn dd).2.1 := by
  obtain ⟨r1, n1⟩ := okR_iff.1 h
  obtain ⟨r2, n2⟩ := okR_iff.1 hd
  have p1 := (right_pos r1).1
  have p2 := (right_pos r2).1
  have e : addT an ad dn dd = canR (an * dd + dn * ad) (ad * dd) := by
    unfold addT
    rw [r1, r2]
    rfl
  rw [e] at z ⊢
  have pp := Int.mul_pos p1 p2
  obtain ⟨k1, k2, k3, k4, k5⟩ := can_ok pp z
  obtain ⟨s1, s2⟩ := can_sign pp z
  have q1 : 0 ≤ an * dd := Int.mul_nonneg n1 (by omega)
  have q2 : 0 ≤ dn * ad := Int.mul_nonneg n2 (by omega)
  exact ⟨okR_iff.2 ⟨k1, by omega⟩, ⟨k3, k4⟩, ⟨by have := (right_pos k1).1; omega, k5⟩, k2⟩
theorem wait_parts {M an ad dn dd n' d' : Int} (p1 : 0 < ad) (p2 : 0 < dd) (d1 : ad ∣ M) (d2 : dd ∣ M) (e : n' * (ad * dd) = (an * dd + dn * ad) * d') : (parts M an ad + parts M dn dd) * d' = n' * M := by
  have pp := Int.mul_pos p1 p2
  have a1 : parts M an ad * ad = an * M := parts_eq d1
  have a2 : parts M dn dd * dd = dn * M := parts_eq d2
  generalize parts M an ad = X at *
  generalize parts M dn dd = Y at *
  have k : (X + Y) * (ad * dd) = M * (an * dd + dn * ad) := by
    rw [Int.add_mul, ← Int.mul_assoc, a1, Int.mul_comm ad dd, ← Int.mul_assoc, a2, Int.mul_add]
    have x1 : an * M * dd = M * (an * dd) := by rw [Int.mul_comm an M, Int.mul_assoc]
    have x2 : dn * M * ad = M * (dn * ad) := by rw [Int.mul_comm dn M, Int.mul_assoc]
    omega
  have : (X + Y) * d' * (ad * dd) = n' * M * (ad * dd) := by
    rw [Int.mul_assoc, Int.mul_comm d', ← Int.mul_assoc, k, Int.mul_assoc, ← e, Int.mul_left_comm, Int.mul_assoc n' M]
  exact Int.eq_of_mul_eq_mul_right (by omega) this
theorem span_says {n mm : Nat} {c : Row} {L : Rats} {dn dd : Int} (hn : n ≤ 8) (hm : mm = (n + 1) * (n + 1)) (hc : ∀ k, rightB (c k) = true) (hf : fitB L n = true) (hd : okR dn dd = true) (hw : ∀ k, k < n → (addT (L.n k) (L.d k) dn dd).2.2 = 0) (hs : ∀ k, k < n → L.d k ≤ 1000 ∧ L.n k ≤ 1099511627776) :
    ∃ ln ld hn hd' li hi fv ok, delB n mm c L = (spanV ln ld hn hd' li hi fv, ok) ∧ I64 ln ∧ I64 ld ∧ I64 hn ∧ I64 hd' ∧ inB n mm c (waitL L dn dd) = spanOf ln ld hn hd' li hi fv ok dn dd := by
  obtain ⟨Lq, hok⟩ := (fitB_iff hn).1 hf
  obtain ⟨rd, nd⟩ := okR_iff.1 hd
  have pd := (right_pos rd).1
  obtain ⟨M, m, m1, m2⟩ := dens n L.d dd pd (fun k hk => (right_pos (okR_iff.1 (hok k hk)).1).1)
  have X0 : 0 ≤ parts M dn dd := by
    unfold parts
    exact Int.mul_nonneg nd (Int.ediv_nonneg (by omega) (by omega))
  -- the numbers, in parts
  have h0 : ∀ i, i ≤ n → 0 < (aheadL L).d i ∧ (aheadL L).d i ∣ M := fun i hi => by
    unfold aheadL
    by_cases e : i = 0
    · simp only [e, if_true]
      exact ⟨by decide, Int.one_dvd M⟩
    · simp only [e, if_false]
      exact ⟨(right_pos (okR_iff.1 (hok (i - 1) (by omega))).1).1, m2 _ (by omega)⟩
  have hS : ∀ i, i ≤ n → rightR ((aheadL L).n i) ((aheadL L).d i) = true ∧ 0 ≤ (aheadL L).n i ∧ (aheadL L).n i ≤ 1099511627776 ∧ (aheadL L).d i ≤ 1000 := fun i hi => by
    unfold aheadL
    by_cases e : i = 0
    · simp only [e, if_true]
      exact ⟨right_one 0, by decide, by decide, by decide⟩
    · simp only [e, if_false]
      have := hs (i - 1) (by omega)
      have g := okR_iff.1 (hok (i - 1) (by omega))
      exact ⟨g.1, g.2, this.2, this.1⟩
  have div_le : ∀ k, k < mm → k / (n + 1) ≤ n := fun k hk => by
    have := (Nat.div_lt_iff_lt_mul (show 0 < n + 1 by omega)).2 (hm ▸ hk); omega
  have mod_le : ∀ k, k % (n + 1) ≤ n := fun k => by
    have := Nat.mod_lt k (show 0 < n + 1 by omega); omega
  have hU : ∀ k, k < mm → isUp n c k → Fits M (endUp n c L k) := fun k hk _ => ⟨(h0 _ (div_le k hk)).1, (h0 _ (div_le k hk)).2⟩
  have hF : ∀ k, k < mm → isFrom n c k → Fits M (endFrom n c L k) := fun k hk _ => ⟨(h0 _ (mod_le k)).1, (h0 _ (mod_le k)).2⟩
  obtain ⟨fS, fL, fH⟩ := dEnd_says (X := parts M dn dd) m X0 hU hF
  have sm : SmallE (dEnd n mm c L).lo ∧ ((dEnd n mm c L).fv = false → SmallE (dEnd n mm c L).hi) := by
    refine ends_all SmallE (fun k hk _ => ?_) (fun k hk _ => ?_) (List.finRange mm) d0 ?_ (fun h => by cases h)
    · obtain ⟨a, b, c', d⟩ := hS _ (div_le k hk)
      have := valV_bd (c k)
      exact ⟨a, b, c', d, this.1, this.2⟩
    · obtain ⟨a, b, c', d⟩ := hS _ (mod_le k)
      have := valV_bd (c k)
      exact ⟨a, b, c', d, by show -300000000 ≤ -valV (c k); omega, by show -valV (c k) ≤ 300000000; omega⟩
    · exact ⟨right_one 0, by decide, by decide, by decide, by decide, by decide⟩
  -- what each clock has, behind the delay
  let P : Nat → Int := fun i => parts M ((aheadL L).n i) ((aheadL L).d i)
  have hP : ∀ i, i ≤ n → 0 < (aheadL L).d i ∧ P i * (aheadL L).d i = (aheadL L).n i * M := fun i hi => ⟨(h0 i hi).1, parts_eq (h0 i hi).2⟩
  have P0 : P 0 = 0 := by simp [P, parts, aheadL]
  let P' : Nat → Int := fun i => if i = 0 then 0 else P i + parts M dn dd
  have hwok : ∀ k, k < n → _ := fun k hk => wait_ok (hok k hk) hd (hw k hk)
  have hP' : ∀ i, i ≤ n → 0 < (aheadL (waitL L dn dd)).d i ∧ P' i * (aheadL (waitL L dn dd)).d i = (aheadL (waitL L dn dd)).n i * M := fun i hi => by
    by_cases e : i = 0
    · subst e
      simp [aheadL, P']
    · obtain ⟨o, _, _, q⟩ := hwok (i - 1) (by omega)
      have g := hok (i - 1) (by omega)
      have pi := (right_pos (okR_iff.1 g).1).1
      have := wait_parts (M := M) pi pd (m2 _ (by omega)) m1 q
      simp only [aheadL, P', P, e, if_false, waitL]
      exact ⟨(right_pos (okR_iff.1 o).1).1, this⟩
  have fit' : fitB (waitL L dn dd) n = true := (fitB_iff hn).2 ⟨Lq, fun k hk => (hwok k hk).1⟩
  have all' : inB n mm c (waitL L dn dd) = true ↔ ∀ k, k < mm → holdsB (c k) (P' (k / (n + 1)) - P' (k % (n + 1))) M = true := by
    unfold inB allK
    rw [fit', Bool.true_and, List.all_eq_true]
    constructor
    · intro h k hk
      rw [← keepAt_parts (n := n) (c := c) (L := waitL L dn dd) m (hc k) hP' (hm ▸ hk)]
      exact h k (List.mem_range.2 hk)
    · intro h k hk
      rw [keepAt_parts (n := n) (c := c) (L := waitL L dn dd) m (hc k) hP' (hm ▸ List.mem_range.1 hk)]
      exact h k (List.mem_range.1 hk)
  unfold delB
  by_cases bad : (List.range mm).any (badK n c L) = true
  · rw [if_pos bad]
    refine ⟨0, 0, 0, 0, false, false, false, false, rfl, by decide, by decide, by decide, by decide, ?_⟩
    rw [show spanOf 0 0 0 0 false false false false dn dd = false by simp [spanOf]]
    rw [← Bool.not_eq_true, all']
    intro h
    obtain ⟨k, hk, hb⟩ := List.any_eq_true.1 bad
    have hk := List.mem_range.1 hk
    have := h k hk
    unfold badK at hb
    simp only [Bool.and_eq_true, Bool.not_eq_true', decide_eq_false_iff_not] at hb
    obtain ⟨⟨⟨f, u⟩, g⟩, kk⟩ := hb
    rw [keepAt_parts (n := n) (c := c) (L := L) m (hc k) hP (hm ▸ hk)] at kk
    have same : P' (k / (n + 1)) - P' (k % (n + 1)) = P (k / (n + 1)) - P (k % (n + 1)) := by
      by_cases i0 : k / (n + 1) = 0
      · by_cases j0 : k % (n + 1) = 0
        · rw [i0, j0]; simp
        · exact absurd ⟨i0, j0⟩ g
      · by_cases j0 : k % (n + 1) = 0
        · exact absurd ⟨i0, j0⟩ u
        · simp only [P', i0, j0, if_false]
          omega
    rw [same, kk] at this
    cases this
  · rw [if_neg bad]
    have key : inB n mm c (waitL L dn dd) = true ↔ Behind M (parts M dn dd) (dEnd n mm c L).lo ∧ AheadS M (parts M dn dd) (dEnd n mm c L) := by
      rw [all', fL, fH]
      have nb : ∀ k, k < mm → badK n c L k = false := fun k hk => by
        rw [← Bool.not_eq_true]
        exact fun h => bad (List.any_eq_true.2 ⟨k, List.mem_range.2 hk, h⟩)
      have one : ∀ k, k < mm → (holdsB (c k) (P' (k / (n + 1)) - P' (k % (n + 1))) M = true ↔ (isFrom n c k → Behind M (parts M dn dd) (endFrom n c L k)) ∧ (isUp n c k → Ahead M (parts M dn dd) (endUp n c L k))) := fun k hk => by
        rw [holds_fin (hc k) m]
        by_cases f : finB (c k) = true
        · by_cases i0 : k / (n + 1) = 0
          · by_cases j0 : k % (n + 1) = 0
            · have := nb k hk
              unfold badK at this
              simp only [f, i0, j0, Bool.true_and, Bool.not_eq_false', not_true_eq_false, false_and, and_false, decide_false, Bool.not_false] at this
              have kk : keepAt n c L k = true := by simpa using this
              rw [keepAt_parts (n := n) (c := c) (L := L) m (hc k) hP (hm ▸ hk), holds_fin (hc k) m, i0, j0] at kk
              have kk := kk f
              constructor
              · intro _
                exact ⟨fun x => absurd j0 x.2.2, fun x => absurd i0 x.2.1⟩
              · intro _ _
                rw [i0, j0]
                simp only [P', if_true]
                simpa using kk
            · have q : P' (k / (n + 1)) - P' (k % (n + 1)) = -(P (k % (n + 1)) + parts M dn dd) := by
                simp only [P', i0, j0, if_true, if_false]
                omega
              have ev : endP M (endFrom n c L k) = -(valV (c k) * M) - P (k % (n + 1)) := by
                simp only [endP, endFrom, P, Int.neg_mul]
              rw [q]
              unfold Behind
              rw [ev]
              show (finB (c k) = true → _) ↔ (_ → _ ∨ (_ ∧ valR (c k) = true)) ∧ _
              constructor
              · intro h
                refine ⟨fun _ => ?_, fun x => absurd i0 x.2.1⟩
                rcases h f with h | ⟨h, r⟩
                · exact .inl (by omega)
                · exact .inr ⟨by omega, r⟩
              · intro h _
                rcases h.1 ⟨f, i0, j0⟩ with h | ⟨h, r⟩
                · exact .inl (by omega)
                · exact .inr ⟨by omega, r⟩
          · by_cases j0 : k % (n + 1) = 0
            · have q : P' (k / (n + 1)) - P' (k % (n + 1)) = P (k / (n + 1)) + parts M dn dd := by
                simp only [P', i0, j0, if_true, if_false]
                omega
              have ev : endP M (endUp n c L k) = valV (c k) * M - P (k / (n + 1)) := rfl
              rw [q]
              unfold Ahead
              rw [ev]
              show (finB (c k) = true → _) ↔ _ ∧ (_ → _ ∨ (_ ∧ valR (c k) = true))
              constructor
              · intro h
                refine ⟨fun x => absurd x.2.1 i0, fun _ => ?_⟩
                rcases h f with h | ⟨h, r⟩
                · exact .inl (by omega)
                · exact .inr ⟨by omega, r⟩
              · intro h _
                rcases h.2 ⟨f, i0, j0⟩ with h | ⟨h, r⟩
                · exact .inl (by omega)
                · exact .inr ⟨by omega, r⟩
            · have := nb k hk
              unfold badK at this
              simp only [f, i0, j0, Bool.true_and, Bool.not_eq_false', not_false_eq_true, and_false, and_true, decide_false, Bool.not_false] at this
              have kk : keepAt n c L k = true := by simpa using this
              rw [keepAt_parts (n := n) (c := c) (L := L) m (hc k) hP (hm ▸ hk), holds_fin (hc k) m] at kk
              have same : P' (k / (n + 1)) - P' (k % (n + 1)) = P (k / (n + 1)) - P (k % (n + 1)) := by
                simp only [P', i0, j0, if_false]
                omega
              rw [same]
              exact ⟨fun _ => ⟨fun x => absurd x.2.1 i0, fun x => absurd x.2.2 j0⟩, fun _ => kk⟩
        · exact ⟨fun _ => ⟨fun x => absurd x.1 f, fun x => absurd x.1 f⟩, fun _ x => absurd x f⟩
      constructor
      · intro h
        exact ⟨fun k hk => ((one k hk).1 (h k hk)).1, fun k hk => ((one k hk).1 (h k hk)).2⟩
      · intro h k hk
        exact (one k hk).2 ⟨h.1 k hk, h.2 k hk⟩
    by_cases nn : noneB (dEnd n mm c L) = true
    · rw [if_pos nn]
      refine ⟨0, 0, 0, 0, false, false, false, false, rfl, by decide, by decide, by decide, by decide, ?_⟩
      rw [show spanOf 0 0 0 0 false false false false dn dd = false by simp [spanOf]]
      rw [← Bool.not_eq_true, key]
      exact none_says m fS nn
    · rw [if_neg nn]
      unfold spanS
      obtain ⟨z1, _, i1, i2, _⟩ := small_del sm.1
      have lo := lo_says m sm.1 fS.lo rd m1
      rw [if_pos z1]
      by_cases fv : (dEnd n mm c L).fv = true
      · rw [if_pos fv]
        refine ⟨_, _, _, _, _, _, _, _, rfl, i1, i2, by decide, by decide, ?_⟩
        rw [Bool.eq_iff_iff, key]
        unfold spanOf AheadS
        simp only [Bool.true_and, Bool.true_or, Bool.and_true, fv, true_or, and_true]
        exact lo.symm
      · rw [if_neg fv]
        have fv' : (dEnd n mm c L).fv = false := by simpa using fv
        obtain ⟨z2, _, i3, i4, _⟩ := small_del (sm.2 fv')
        have hi := hi_says m (sm.2 fv') (fS.hi fv') rd m1
        rw [if_pos z2]
        refine ⟨_, _, _, _, _, _, _, _, rfl, i1, i2, i3, i4, ?_⟩
        rw [Bool.eq_iff_iff, key]
        unfold spanOf AheadS
        rw [Bool.and_eq_true, Bool.true_and, Bool.false_or, lo, hi, fv']
        simp
end Go.Proofs.Ytondgencdcimjaa
