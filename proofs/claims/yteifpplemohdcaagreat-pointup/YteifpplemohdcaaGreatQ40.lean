/-
  A delay, in parts, behind which a valuation is in a zone: just if it is of the span's ends; there is one where Delays tells a span.
-/
import Derived.Test.YteifpplemohdcaaGreatQ39
namespace Go.Proofs.YteifpplemohdcaaGreat
open Go.RowKit
set_option linter.unusedVariables false
set_option maxRecDepth 100000
def PB (M X : Int) (L : Rats) (i : Nat) : Int := if i = 0 then 0 else parts M ((aheadL L).n i) ((aheadL L).d i) + X
theorem span_key {n mm : Nat} {c : Row} {L : Rats} {M X : Int} (hn : n ≤ 8) (hm : mm = (n + 1) * (n + 1)) (hc : ∀ k, rightB (c k) = true) (hf : fitB L n = true) (m : 0 < M) (m2 : ∀ k, k < n → L.d k ∣ M) (X0 : 0 ≤ X) (bad : ¬ (List.range mm).any (badK n c L) = true) :
    FitS M (dEnd n mm c L) ∧ ((∀ k, k < mm → holdsB (c k) (PB M X L (k / (n + 1)) - PB M X L (k % (n + 1))) M = true) ↔ Behind M X (dEnd n mm c L).lo ∧ AheadS M X (dEnd n mm c L)) := by
  obtain ⟨Lq, hok⟩ := (fitB_iff hn).1 hf
  -- the numbers, in parts
  have h0 : ∀ i, i ≤ n → 0 < (aheadL L).d i ∧ (aheadL L).d i ∣ M := fun i hi => by
    unfold aheadL
    by_cases e : i = 0
    · simp only [e, if_true]
      exact ⟨by decide, Int.one_dvd M⟩
    · simp only [e, if_false]
      exact ⟨(right_pos (okR_iff.1 (hok (i - 1) (by omega))).1).1, m2 _ (by omega)⟩
  have div_le : ∀ k, k < mm → k / (n + 1) ≤ n := fun k hk => by
    have := (Nat.div_lt_iff_lt_mul (show 0 < n + 1 by omega)).2 (hm ▸ hk); omega
  have mod_le : ∀ k, k % (n + 1) ≤ n := fun k => by
    have := Nat.mod_lt k (show 0 < n + 1 by omega); omega
  have hU : ∀ k, k < mm → isUp n c k → Fits M (endUp n c L k) := fun k hk _ => ⟨(h0 _ (div_le k hk)).1, (h0 _ (div_le k hk)).2⟩
  have hF : ∀ k, k < mm → isFrom n c k → Fits M (endFrom n c L k) := fun k hk _ => ⟨(h0 _ (mod_le k)).1, (h0 _ (mod_le k)).2⟩
  obtain ⟨fS, fL, fH⟩ := dEnd_says (X := X) m X0 hU hF
  let P : Nat → Int := fun i => parts M ((aheadL L).n i) ((aheadL L).d i)
  have hP : ∀ i, i ≤ n → 0 < (aheadL L).d i ∧ P i * (aheadL L).d i = (aheadL L).n i * M := fun i hi => ⟨(h0 i hi).1, parts_eq (h0 i hi).2⟩
  have P0 : P 0 = 0 := by simp [P, parts, aheadL]
  let P' : Nat → Int := fun i => if i = 0 then 0 else P i + X
  have PP : ∀ i, PB M X L i = P' i := fun i => rfl
  refine ⟨fS, ?_⟩
  simp only [PP]
  rw [fL, fH]
  have nb : ∀ k, k < mm → badK n c L k = false := fun k hk => by
    rw [← Bool.not_eq_true]
    exact fun h => bad (List.any_eq_true.2 ⟨k, List.mem_range.2 hk, h⟩)
  have one : ∀ k, k < mm → (holdsB (c k) (P' (k / (n + 1)) - P' (k % (n + 1))) M = true ↔ (isFrom n c k → Behind M (X) (endFrom n c L k)) ∧ (isUp n c k → Ahead M (X) (endUp n c L k))) := fun k hk => by
    rw [holds_fin (hc k) m]
    by_cases f : finB (c k) = true
    · by_cases i0 : k / (n + 1) = 0
      · by_cases j0 : k % (n + 1) = 0
        · have := nb k hk
          unfold badK at this
          simp only [f, i0, j0, Bool.true_and, Bool.not_eq_false', not_true_eq_false, false_and, and_false, decide_false, Bool.not_false] at this
          have kk : keepAt n c L k = true := by simpa using this
          rw [keepAt_parts (n := n) (c := c) (L := L) m (hc k) hP (hm ▸ hk), holds_fin (hc k) m, i0, j0] at kk
          have kk := kk f
          constructor
          · intro _
            exact ⟨fun x => absurd j0 x.2.2, fun x => absurd i0 x.2.1⟩
          · intro _ _
            rw [i0, j0]
            simp only [P', if_true]
            simpa using kk
        · have q : P' (k / (n + 1)) - P' (k % (n + 1)) = -(P (k % (n + 1)) + X) := by
            simp only [P', i0, j0, if_true, if_false]
            omega
          have ev : endP M (endFrom n c L k) = -(valV (c k) * M) - P (k % (n + 1)) := by
            simp only [endP, endFrom, P, Int.neg_mul]
          rw [q]
          unfold Behind
          rw [ev]
          show (finB (c k) = true → _) ↔ (_ → _ ∨ (_ ∧ valR (c k) = true)) ∧ _
          constructor
          · intro h
            refine ⟨fun _ => ?_, fun x => absurd i0 x.2.1⟩
            rcases h f with h | ⟨h, r⟩
            · exact .inl (by omega)
            · exact .inr ⟨by omega, r⟩
          · intro h _
            rcases h.1 ⟨f, i0, j0⟩ with h | ⟨h, r⟩
            · exact .inl (by omega)
            · exact .inr ⟨by omega, r⟩
      · by_cases j0 : k % (n + 1) = 0
        · have q : P' (k / (n + 1)) - P' (k % (n + 1)) = P (k / (n + 1)) + X := by
            simp only [P', i0, j0, if_true, if_false]
            omega
          have ev : endP M (endUp n c L k) = valV (c k) * M - P (k / (n + 1)) := rfl
          rw [q]
          unfold Ahead
          rw [ev]
          show (finB (c k) = true → _) ↔ _ ∧ (_ → _ ∨ (_ ∧ valR (c k) = true))
          constructor
          · intro h
            refine ⟨fun x => absurd x.2.1 i0, fun _ => ?_⟩
            rcases h f with h | ⟨h, r⟩
            · exact .inl (by omega)
            · exact .inr ⟨by omega, r⟩
          · intro h _
            rcases h.2 ⟨f, i0, j0⟩ with h | ⟨h, r⟩
            · exact .inl (by omega)
            · exact .inr ⟨by omega, r⟩
        · have := nb k hk
          unfold badK at this
          simp only [f, i0, j0, Bool.true_and, Bool.not_eq_false', not_false_eq_true, and_false, and_true, decide_false, Bool.not_false] at this
          have kk : keepAt n c L k = true := by simpa using this
          rw [keepAt_parts (n := n) (c := c) (L := L) m (hc k) hP (hm ▸ hk), holds_fin (hc k) m] at kk
          have same : P' (k / (n + 1)) - P' (k % (n + 1)) = P (k / (n + 1)) - P (k % (n + 1)) := by
            simp only [P', i0, j0, if_false]
            omega
          rw [same]
          exact ⟨fun _ => ⟨fun x => absurd x.2.1 i0, fun x => absurd x.2.2 j0⟩, fun _ => kk⟩
    · exact ⟨fun _ => ⟨fun x => absurd x.1 f, fun x => absurd x.1 f⟩, fun _ x => absurd x f⟩
  constructor
  · intro h
    exact ⟨fun k hk => ((one k hk).1 (h k hk)).1, fun k hk => ((one k hk).1 (h k hk)).2⟩
  · intro h k hk
    exact (one k hk).2 ⟨h.1 k hk, h.2 k hk⟩
end Go.Proofs.YteifpplemohdcaaGreat

/-
  Where Delays tells a span, there is a delay of it; a span of one delay has both ends.
-/
namespace Go.Proofs.YteifpplemohdcaaGreat
open Go.RowKit
set_option linter.unusedVariables false
set_option maxRecDepth 100000
theorem fits_two {M : Int} {e : End} (h : Fits M e) : Fits (2 * M) e ∧ endP (2 * M) e = 2 * endP M e := by
  have f : Fits (2 * M) e := ⟨h.p, Int.dvd_trans h.d (Int.dvd_mul_left 2 M)⟩
  refine ⟨f, ?_⟩
  have a := endP_eq h
  have b := endP_eq f
  have p := h.p
  refine Int.eq_of_mul_eq_mul_right (show e.cd ≠ 0 by omega) ?_
  rw [b, Int.mul_assoc, a, Int.mul_left_comm]
theorem delS {e : End} (h : okR e.cn e.cd = true) (z : (delT e).2.2 = 0) : 0 < (delT e).2.1 ∧ (delT e).1 * e.cd = (e.n * e.cd - e.cn) * (delT e).2.1 := by
  have r := (okR_iff.1 h).1
  have p := (right_pos r).1
  have e0 : delT e = canR (e.n * e.cd - e.cn * 1) (1 * e.cd) := by
    unfold delT subT
    rw [right_one, r]
    rfl
  rw [Int.mul_one, Int.one_mul] at e0
  rw [e0] at z ⊢
  obtain ⟨k1, k2, k3, k4, k5⟩ := can_ok p z
  exact ⟨(right_pos k1).1, k2⟩
/-- Both ends are told as one fraction just if they are one. -/
theorem del_same {M : Int} {e o : End} (m : 0 < M) (he : Fits M e) (ho : Fits M o) (e1 : okR e.cn e.cd = true) (o1 : okR o.cn o.cd = true) (z1 : (delT e).2.2 = 0) (z2 : (delT o).2.2 = 0) (h1 : (delT e).1 = (delT o).1) (h2 : (delT e).2.1 = (delT o).2.1) : cmpE e o = 0 := by
  obtain ⟨p1, q1⟩ := delS e1 z1
  obtain ⟨p2, q2⟩ := delS o1 z2
  refine (cmpE_parts m he ho).2.2 ?_
  have a := endP_eq he
  have b := endP_eq ho
  have pe := he.p
  have po := ho.p
  rw [h1, h2] at q1
  generalize (delT o).1 = N at *
  generalize (delT o).2.1 = Q at *
  have x1 : endP M e * Q = N * M := by
    refine Int.eq_of_mul_eq_mul_right (show e.cd ≠ 0 by omega) ?_
    rw [Int.mul_assoc, Int.mul_comm Q e.cd, ← Int.mul_assoc, a, Int.mul_assoc, Int.mul_comm M Q, ← Int.mul_assoc, ← q1, Int.mul_assoc, Int.mul_comm e.cd M, ← Int.mul_assoc]
  have x2 : endP M o * Q = N * M := by
    refine Int.eq_of_mul_eq_mul_right (show o.cd ≠ 0 by omega) ?_
    rw [Int.mul_assoc, Int.mul_comm Q o.cd, ← Int.mul_assoc, b, Int.mul_assoc, Int.mul_comm M Q, ← Int.mul_assoc, ← q2, Int.mul_assoc, Int.mul_comm o.cd M, ← Int.mul_assoc]
  exact Int.eq_of_mul_eq_mul_right (show Q ≠ 0 by omega) (x1.trans x2.symm)
theorem lo_nn {n mm : Nat} {c : Row} {L : Rats} {M : Int} (m : 0 < M) (hU : ∀ k, k < mm → isUp n c k → Fits M (endUp n c L k)) (hF : ∀ k, k < mm → isFrom n c k → Fits M (endFrom n c L k)) : 0 ≤ endP M (dEnd n mm c L).lo + 1 := by
  have f0 : FitS M d0 := ⟨⟨by decide, Int.one_dvd M⟩, fun h => by cases h⟩
  obtain ⟨h1, h2, h3⟩ := fold_says (X := endP M (dEnd n mm c L).lo + 1) m hU hF (List.finRange mm) d0 f0
  have b : Behind M (endP M (dEnd n mm c L).lo + 1) (dEnd n mm c L).lo := .inl (by omega)
  have := (h2.1 b).1
  have z : endP M d0.lo = 0 := by simp [endP, d0, parts]
  unfold Behind at this
  rw [z] at this
  omega
end Go.Proofs.YteifpplemohdcaaGreat

/-
  What Delays tells: a span has a delay behind which the valuation is in the zone; one end alone is no span.
-/
namespace Go.Proofs.YteifpplemohdcaaGreat
open Go.RowKit
set_option linter.unusedVariables false
set_option maxRecDepth 100000
theorem aheadU {n : Nat} {L : Rats} (hn : n ≤ 8) (hf : fitB L n = true) (i : Nat) (hi : i ≤ n) : okR ((aheadL L).n i) ((aheadL L).d i) = true := by
  obtain ⟨Lq, hok⟩ := (fitB_iff hn).1 hf
  unfold aheadL
  by_cases e : i = 0
  · simp only [e, if_true]; exact okR_iff.2 ⟨right_one 0, by decide⟩
  · simp only [e, if_false]; exact hok (i - 1) (by omega)
theorem fits_all {n mm : Nat} {c : Row} {L : Rats} {M : Int} (hn : n ≤ 8) (hm : mm = (n + 1) * (n + 1)) (hf : fitB L n = true) (m2 : ∀ k, k < n → L.d k ∣ M) : (∀ k, k < mm → isUp n c k → Fits M (endUp n c L k)) ∧ (∀ k, k < mm → isFrom n c k → Fits M (endFrom n c L k)) := by
  have h0 : ∀ i, i ≤ n → 0 < (aheadL L).d i ∧ (aheadL L).d i ∣ M := fun i hi => by
    refine ⟨(right_pos (okR_iff.1 (aheadU hn hf i hi)).1).1, ?_⟩
    unfold aheadL
    by_cases e : i = 0
    · simp only [e, if_true]; exact Int.one_dvd M
    · simp only [e, if_false]; exact m2 _ (by omega)
  have div_le : ∀ k, k < mm → k / (n + 1) ≤ n := fun k hk => by
    have := (Nat.div_lt_iff_lt_mul (show 0 < n + 1 by omega)).2 (hm ▸ hk); omega
  have mod_le : ∀ k, k % (n + 1) ≤ n := fun k => by
    have := Nat.mod_lt k (show 0 < n + 1 by omega); omega
  exact ⟨fun k hk _ => ⟨(h0 _ (div_le k hk)).1, (h0 _ (div_le k hk)).2⟩, fun k hk _ => ⟨(h0 _ (mod_le k)).1, (h0 _ (mod_le k)).2⟩⟩
theorem ends_ok {n mm : Nat} {c : Row} {L : Rats} (hn : n ≤ 8) (hm : mm = (n + 1) * (n + 1)) (hf : fitB L n = true) : okR (dEnd n mm c L).lo.cn (dEnd n mm c L).lo.cd = true ∧ ((dEnd n mm c L).fv = false → okR (dEnd n mm c L).hi.cn (dEnd n mm c L).hi.cd = true) := by
  have div_le : ∀ k, k < mm → k / (n + 1) ≤ n := fun k hk => by
    have := (Nat.div_lt_iff_lt_mul (show 0 < n + 1 by omega)).2 (hm ▸ hk); omega
  have mod_le : ∀ k, k % (n + 1) ≤ n := fun k => by
    have := Nat.mod_lt k (show 0 < n + 1 by omega); omega
  refine ends_all (fun e => okR e.cn e.cd = true) (fun k hk _ => aheadU hn hf _ (div_le k hk)) (fun k hk _ => aheadU hn hf _ (mod_le k)) (List.finRange mm) d0 ?_ (fun h => by cases h)
  exact okR_iff.2 ⟨right_one 0, by decide⟩
theorem PB_is {n : Nat} {L : Rats} {D X : Int} (hq : L.q = n) (i : Nat) (hi : i ≤ n) : PB D X L i = VD (pV D L) X i := by
  unfold PB VD pV aheadL
  by_cases e : i = 0
  · rw [if_pos e, if_pos e]
  · rw [if_neg e, if_neg e, if_neg e, if_pos (by omega)]
    simp only [e, if_false]
theorem inV_PB {n mm : Nat} {c : Row} {L : Rats} {D X : Int} (hm : mm = (n + 1) * (n + 1)) (hq : L.q = n) (h : ∀ k, k < mm → holdsB (c k) (PB D X L (k / (n + 1)) - PB D X L (k % (n + 1))) D = true) : inV n mm c (VD (pV D L) X) D = true := by
  unfold inV
  rw [kB_iff]
  intro i j hi hj
  have hp : i * (n + 1) + j < mm := by rw [hm]; exact pos_lt hi hj
  have := h _ hp
  rw [place_div hj, place_mod hj, PB_is hq i hi, PB_is hq j hj] at this
  rw [listOf_get _ _ _ hp]; exact this
theorem later_says {n mm : Nat} {c : Row} {L : Rats} (hn : n ≤ 8) (hm : mm = (n + 1) * (n + 1)) (hc : ∀ k, rightB (c k) = true) (hf : fitB L n = true) (h : (delB n mm c L).2 = true) :
    ∃ D X, 1 ≤ D ∧ (∀ k, k < n → L.d k ∣ D) ∧ 0 ≤ X ∧ inV n mm c (VD (pV D L) X) D = true := by
  obtain ⟨Lq, hok⟩ := (fitB_iff hn).1 hf
  unfold delB at h
  by_cases bad : (List.range mm).any (badK n c L) = true
  · rw [if_pos bad] at h; cases h
  · rw [if_neg bad] at h
    by_cases nn : noneB (dEnd n mm c L) = true
    · rw [if_pos nn] at h; cases h
    · clear h
      obtain ⟨M, m, m1, m2⟩ := dens n L.d 1 (by decide) (fun k hk => (right_pos (okR_iff.1 (hok k hk)).1).1)
      have m2' : ∀ k, k < n → L.d k ∣ 2 * M := fun k hk => Int.dvd_trans (m2 k hk) (Int.dvd_mul_left 2 M)
      obtain ⟨hU, hF⟩ := fits_all (c := c) hn hm hf m2'
      have hl := lo_nn (show 0 < 2 * M by omega) hU hF
      have fS := (span_key (X := 0) hn hm hc hf m m2 (by omega) bad).1
      obtain ⟨f1, e1⟩ := fits_two fS.lo
      have K : ∀ X, 0 ≤ X → Behind (2 * M) X (dEnd n mm c L).lo → AheadS (2 * M) X (dEnd n mm c L) → inV n mm c (VD (pV (2 * M) L) X) (2 * M) = true := fun X X0 b a => inV_PB hm Lq ((span_key hn hm hc hf (by omega) m2' X0 bad).2.2 ⟨b, a⟩)
      rw [e1] at hl
      cases fv : (dEnd n mm c L).fv with
      | true => exact ⟨2 * M, 2 * endP M (dEnd n mm c L).lo + 1, by omega, m2', by omega, K _ (by omega) (.inl (by rw [e1]; omega)) (.inl fv)⟩
      | false =>
        have hh := fS.hi fv
        obtain ⟨f2, e2⟩ := fits_two hh
        obtain ⟨c1, c2⟩ := cmpE_parts m fS.lo hh
        have c3 := cmp_tri m fS.lo hh
        unfold noneB at nn
        simp only [fv, Bool.not_false, Bool.true_and, Bool.or_eq_true, decide_eq_true_eq, Bool.and_eq_true, Bool.not_eq_true', Bool.and_eq_false_iff, not_or, not_and] at nn
        obtain ⟨n1, n2⟩ := nn
        rw [c3] at n1
        by_cases q : endP M (dEnd n mm c L).lo < endP M (dEnd n mm c L).hi
        · exact ⟨2 * M, endP M (dEnd n mm c L).lo + endP M (dEnd n mm c L).hi, by omega, m2', by omega, K _ (by omega) (.inl (by rw [e1]; omega)) (.inr (.inl (by rw [e2]; omega)))⟩
        · have q' : endP M (dEnd n mm c L).lo = endP M (dEnd n mm c L).hi := by omega
          obtain ⟨g1, g2⟩ := n2 (c2.2 q')
          refine ⟨2 * M, 2 * endP M (dEnd n mm c L).lo, by omega, m2', by omega, K _ (by omega) (.inr ⟨e1, by simpa using g1⟩) (.inr (.inr ⟨by rw [e2]; omega, by simpa using g2⟩))⟩
theorem ends_say {n mm : Nat} {c : Row} {L : Rats} (hn : n ≤ 8) (hm : mm = (n + 1) * (n + 1)) (hc : ∀ k, rightB (c k) = true) (hf : fitB L n = true) :
    ∃ ln ld hn' hd' li hi fv, (delB n mm c L).1 = spanV ln ld hn' hd' li hi fv ∧ ((delB n mm c L).2 = true → fv = false → ln = hn' → ld = hd' → li = true) := by
  obtain ⟨Lq, hok⟩ := (fitB_iff hn).1 hf
  unfold delB
  by_cases bad : (List.range mm).any (badK n c L) = true
  · rw [if_pos bad]; exact ⟨0, 0, 0, 0, false, false, false, rfl, fun h => by cases h⟩
  · rw [if_neg bad]
    by_cases nn : noneB (dEnd n mm c L) = true
    · rw [if_pos nn]; exact ⟨0, 0, 0, 0, false, false, false, rfl, fun h => by cases h⟩
    · rw [if_neg nn]
      unfold spanS
      by_cases z1 : (delT (dEnd n mm c L).lo).2.2 = 0
      · rw [if_pos z1]
        cases fv : (dEnd n mm c L).fv with
        | true => exact ⟨_, _, _, _, _, _, _, rfl, fun _ h => by cases h⟩
        | false =>
          by_cases z2 : (delT (dEnd n mm c L).hi).2.2 = 0
          · rw [if_neg (by simp), if_pos z2]
            refine ⟨_, _, _, _, _, _, _, rfl, fun _ _ h1 h2 => ?_⟩
            obtain ⟨M, m, m1, m2⟩ := dens n L.d 1 (by decide) (fun k hk => (right_pos (okR_iff.1 (hok k hk)).1).1)
            have fS := (span_key (X := 0) hn hm hc hf m m2 (by omega) bad).1
            obtain ⟨o1, o2⟩ := ends_ok (c := c) hn hm hf
            have c0 := del_same m fS.lo (fS.hi fv) o1 (o2 fv) z1 z2 h1 h2
            unfold noneB at nn
            rw [c0, fv] at nn
            simp at nn
            exact nn.1
          · rw [if_neg (by simp), if_neg z2]; exact ⟨0, 0, 0, 0, false, false, false, rfl, fun h => by cases h⟩
      · rw [if_neg z1]; exact ⟨0, 0, 0, 0, false, false, false, rfl, fun h => by cases h⟩
end Go.Proofs.YteifpplemohdcaaGreat
