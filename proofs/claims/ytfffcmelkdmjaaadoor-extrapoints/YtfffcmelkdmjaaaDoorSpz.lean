/-
  The maths of ExtraPoints: a valuation is in the widened zone just if it keeps the widened bounds.
-/
import Derived.Test.YtfffcmelkdmjaaaDoorSyz
import Derived.Test.YtfffcmelkdmjaaaDoorTnz
namespace Go.Proofs.YtfffcmelkdmjaaaDoor
open Go.RowKit
set_option linter.unusedVariables false
set_option maxRecDepth 100000
theorem kB_inA {n m : Nat} {c : Row} {V : Nat → Int} (hm : m = (n + 1) * (n + 1)) : kB n (listOf c m) V 2 = inA n c V m := by
  rw [Bool.eq_iff_iff, kB_iff, inA_iff]
  constructor
  · intro h k hk
    have hd : k / (n + 1) ≤ n := by
      have : k / (n + 1) < n + 1 := Nat.div_lt_of_lt_mul (by rw [← hm]; exact hk)
      omega
    have hr : k % (n + 1) ≤ n := by have := Nat.mod_lt k (show 0 < n + 1 by omega); omega
    have := h _ _ hd hr
    have e : k / (n + 1) * (n + 1) + k % (n + 1) = k := by rw [Nat.mul_comm]; exact Nat.div_add_mod k (n + 1)
    rw [e, listOf_get _ _ _ hk] at this
    exact this
  · intro h i j hi hj
    have hk : i * (n + 1) + j < m := by rw [hm]; exact pos_lt hi hj
    have := h _ hk
    rw [place_div hj, place_mod hj] at this
    rw [listOf_get _ _ _ hk]
    exact this
/-- What Max makes of a zone that is not empty, and which valuations it has. -/
theorem lu_pts {n m : Nat} {lo : List Int} {c : Row} (hn : n ≤ 8) (hm : m = (n + 1) * (n + 1)) (zc : ZC n m c) (h0 : mayE n lo = 0) (hc : c 0 = 1) :
    ∃ c1 ca, ZC n m c1 ∧ ZC n m ca ∧ luO n m lo lo c1 = some ca ∧ RightM n (freeL n (silL lo lo n) (silL lo lo n).length (oR n c m)) ∧ zoneR n (drf n m (rowsL n (freeL n (silL lo lo n) (silL lo lo n).length (oR n c m)) (n + 1))) = some c1 ∧ c1 0 = 1 ∧ (∀ k, k < m → fgS n (silL lo lo n) (silL lo lo n).length c k = c1 k) ∧ ∀ V : Nat → Int, V 0 = 0 → (∀ i, 0 ≤ V i) → inA n ca V m = inA n (wdR n lo lo c1) V m := by
  obtain ⟨l1, k1⟩ := mayE_zero h0
  obtain ⟨c1, z1, i1, R1, f1, p1, q1⟩ := free_rowL (l := silL lo lo n) hn hm zc sil_has
  rcases zc with rfl | ⟨p, hp⟩
  · cases hc
  · obtain ⟨e1, F1, L1⟩ := p1 p hp
    obtain ⟨q, Fq, eq, Lq, Uq, Gq⟩ := lu_math hn hm F1 k1 k1
    refine ⟨c1, _, z1, .inr ⟨_, Fq⟩, eq, R1, f1, F1.zero hm, fun k hk => fgS_row hm hp sil_has F1 k hk, fun V v0 vp => ?_⟩
    have rr : RightL m (listOf (wdR n lo lo c1) m) := fun k hk => by
      rw [listOf_get _ _ _ hk]
      have := wdR_right (n := n) k1 k1 (zc_right hm z1) k
      simpa only [rightB, decide_eq_true_eq] using this
    have c0 := F1.zero hm
    unfold luO at eq
    rw [if_neg (by omega)] at eq
    have := points_law n m _ _ V 2 hn hm rr (by omega) v0 vp eq
    rw [Fq.zero hm, kB_inA hm, kB_inA hm] at this
    rw [this]
    simp
/-- One bound of what is asked: left out, or widened. -/
theorem wd_skip {n i j : Nat} {lo : List Int} {c : Row} {V : Nat → Int} {A : Nat} (hj : j ≤ n) (hA : A = i * (n + 1) + j) (i0 : ¬ i = 0) (ij : ¬ i = j) (h : 2 * cstN lo i + 1 < c A) : inA n (wdR n lo lo c) V (A + 1) = inA n (wdR n lo lo c) V A := by
  show (inA n (wdR n lo lo c) V A && _) = _
  have : wdR n lo lo c A = 2147483647 := by
    unfold wdR wdV
    rw [hA, place_div hj, place_mod hj, if_neg ij, if_pos ⟨i0, by rw [← hA]; exact h⟩]
  rw [this, holdsB_inf, Bool.and_true]
theorem wd_take {n i j : Nat} {lo : List Int} {c : Row} {V : Nat → Int} {A : Nat} (hj : j ≤ n) (hA : A = i * (n + 1) + j) (h : i = 0 ∨ i = j ∨ c A ≤ 2 * cstN lo i + 1) : inA n (wdR n lo lo c) V (A + 1) = (inA n (wdR n lo lo c) V A && holdsB (if ¬ i = j ∧ c A < -(2 * cstN lo j) then -(2 * cstN lo j) else c A) (V i - V j) 2) := by
  show (inA n (wdR n lo lo c) V A && _) = _
  have : wdR n lo lo c A = if ¬ i = j ∧ c A < -(2 * cstN lo j) then -(2 * cstN lo j) else c A := by
    unfold wdR wdV
    rw [hA, place_div hj, place_mod hj, ← hA]
    by_cases e : i = j
    · rw [if_pos e, if_neg (fun h => h.1 e)]
    · rw [if_neg e, if_neg (fun g => by rcases h with h | h | h <;> omega)]
      by_cases e2 : c A < -(2 * cstN lo j)
      · rw [if_pos e2, if_pos ⟨e, e2⟩]
      · rw [if_neg e2, if_neg (fun g => e2 g.2)]
  rw [this, hA, place_div hj, place_mod hj]
/-- The clocks without a number, as the law lists them. -/
theorem sil_next (lo : List Int) (K : Nat) (h : -1 ≤ lo.getD K 0) : silL lo lo (K + 1) = if lo.getD K 0 < 0 then silL lo lo K ++ [(K : Int) + 1] else silL lo lo K := by
  show (if lo.getD K 0 = -1 ∧ lo.getD K 0 = -1 then _ else _) = _
  by_cases e : lo.getD K 0 < 0
  · rw [if_pos e, if_pos (by omega)]
  · rw [if_neg e, if_neg (by omega)]
end Go.Proofs.YtfffcmelkdmjaaaDoor
