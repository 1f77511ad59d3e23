/-
  What cells of zones are; what both say of zones.
-/
import Derived.Test.YtohkbjkfpnhggaaZg
import Derived.Test.YtohkbjkfpnhggaaZa
import Derived.Test.YtohkbjkfpnhggaaZi
import Derived.Test.YtohkbjkfpnhggaaZj
namespace Go.Proofs.Ytohkbjkfpnhggaa
open Go.RowKit
set_option linter.unusedVariables false
set_option maxRecDepth 100000
theorem narB_right (x : Int) : rightB (narB x) = true := by
  unfold narB rightB
  split
  · simp
  · split
    · simp
    · simp; omega
def minR (c d : Row) : Row := fun j => min (c j) (d j)
theorem allRight_of (l : List Int) (m : Nat) (h : ∀ j, j < m → rightB (l.getD j 0) = true) : allRight l m = true := by
  induction m with
  | zero => rfl
  | succ m ih => simp only [allRight, ih (fun j hj => h j (by omega)), h m (by omega), Bool.and_self]
/-! ### Equal -/
/-! ### Includes -/
theorem nless_iff (c d : Row) (m : Nat) : nless c d m = true ↔ ∀ j, j < m → d j ≤ c j := by
  induction m with
  | zero => simp [nless]
  | succ m ih =>
    simp only [nless, Bool.and_eq_true, ih, decide_eq_true_eq]
    constructor
    · rintro ⟨a, b⟩ j hj
      by_cases e : j = m
      · subst e; exact b
      · exact a j (by omega)
    · intro h
      exact ⟨fun j hj => h j (by omega), h m (by omega)⟩
end Go.Proofs.Ytohkbjkfpnhggaa

/-
  The document's Equal, Common, Meets.
-/
namespace Go.Proofs.Ytohkbjkfpnhggaa
open Go.RowKit
set_option linter.unusedVariables false
set_option maxRecDepth 100000
/-! ### Common -/
theorem listOf_congr (c d : Row) (m : Nat) (h : ∀ j, j < m → c j = d j) : listOf c m = listOf d m := by
  unfold listOf
  exact List.map_congr_left fun a ha => h a (by simpa using ha)
end Go.Proofs.Ytohkbjkfpnhggaa

/-
  What two zones have in common, in numbers: And and Constrain by all cells are one.
-/
namespace Go.Proofs.Ytohkbjkfpnhggaa
open Go.RowKit
set_option linter.unusedVariables false
set_option maxRecDepth 100000
theorem le_limM {r : Mat} {a b i j : Nat} {v x : Int} : x ≤ limM r a b v i j ↔ (x ≤ r i j ∧ (a = i → b = j → x ≤ v)) := by
  unfold limM upd
  by_cases e : i = a ∧ j = b
  · obtain ⟨rfl, rfl⟩ := e
    rw [if_pos ⟨rfl, rfl⟩]
    constructor
    · intro h; exact ⟨by omega, fun _ _ => by omega⟩
    · rintro ⟨h1, h2⟩; have := h2 rfl rfl; omega
  · rw [if_neg e]
    constructor
    · intro h; exact ⟨h, fun e1 e2 => absurd ⟨e1.symm, e2.symm⟩ e⟩
    · exact fun h => h.1
theorem le_tgtM {n : Nat} {c : Row} {r : Mat} {i j : Nat} {x : Int} : ∀ K, x ≤ tgtM n c K r i j ↔ (x ≤ r i j ∧ ∀ k, k < K → k / (n + 1) = i → k % (n + 1) = j → x ≤ c k)
  | 0 => ⟨fun h => ⟨h, fun k hk => by omega⟩, fun h => h.1⟩
  | K + 1 => by
    rw [show tgtM n c (K + 1) r = limM (tgtM n c K r) (K / (n + 1)) (K % (n + 1)) (c K) from rfl, le_limM, le_tgtM K]
    constructor
    · rintro ⟨⟨h1, h2⟩, h3⟩
      refine ⟨h1, fun k hk e1 e2 => ?_⟩
      by_cases q : k = K
      · subst q; exact h3 e1 e2
      · exact h2 k (by omega) e1 e2
    · rintro ⟨h1, h2⟩
      exact ⟨⟨h1, fun k hk => h2 k (by omega)⟩, h2 K (by omega)⟩
theorem le_limK {L : Lims} {r : Mat} {i j : Nat} {x : Int} : ∀ K, x ≤ limO L K r i j ↔ (x ≤ r i j ∧ ∀ k, k < K → (L.i k).toNat = i → (L.j k).toNat = j → x ≤ L.b k)
  | 0 => ⟨fun h => ⟨h, fun k hk => by omega⟩, fun h => h.1⟩
  | K + 1 => by
    rw [show limO L (K + 1) r = limM (limO L K r) (L.i K).toNat (L.j K).toNat (L.b K) from rfl, le_limM, le_limK K]
    constructor
    · rintro ⟨⟨h1, h2⟩, h3⟩
      refine ⟨h1, fun k hk e1 e2 => ?_⟩
      by_cases q : k = K
      · subst q; exact h3 e1 e2
      · exact h2 k (by omega) e1 e2
    · rintro ⟨h1, h2⟩
      exact ⟨⟨h1, fun k hk => h2 k (by omega)⟩, h2 K (by omega)⟩
theorem eq_of_le {a b : Int} (h : ∀ x, x ≤ a ↔ x ≤ b) : a = b := Int.le_antisymm ((h a).1 (Int.le_refl _)) ((h b).2 (Int.le_refl _))
theorem place_div {n i j : Nat} (hj : j ≤ n) : (i * (n + 1) + j) / (n + 1) = i := by rw [Nat.mul_comm, Nat.mul_add_div (by omega), Nat.div_eq_of_lt (by omega)]; rfl
theorem place_mod {n i j : Nat} (hj : j ≤ n) : (i * (n + 1) + j) % (n + 1) = j := by rw [Nat.mul_comm, Nat.mul_add_mod, Nat.mod_eq_of_lt (by omega)]
theorem tgt_at {n m : Nat} {c : Row} {r : Mat} (hm : m = (n + 1) * (n + 1)) {i j : Nat} (hi : i ≤ n) (hj : j ≤ n) : tgtM n c m r i j = min (r i j) (c (i * (n + 1) + j)) := by
  refine eq_of_le fun x => ?_
  rw [le_tgtM]
  constructor
  · rintro ⟨h1, h2⟩
    have := h2 (i * (n + 1) + j) (by rw [hm]; exact pos_lt hi hj) (place_div hj) (place_mod hj)
    omega
  · intro h
    refine ⟨by omega, fun k hk e1 e2 => ?_⟩
    have : i * (n + 1) + j = k := by rw [← e1, ← e2, Nat.mul_comm]; exact Nat.div_add_mod k (n + 1)
    rw [← this]
    omega
/-- All cells of a zone as limits, the last row first. -/
def LC (n : Nat) (d : Row) : Lims := ⟨(n + 1) * (n + 1), fun k => ((n - k / (n + 1) : Nat) : Int), fun k => ((k % (n + 1) : Nat) : Int), fun k => d ((n - k / (n + 1)) * (n + 1) + k % (n + 1))⟩
theorem lc_at {n m : Nat} {d : Row} {r : Mat} (hm : m = (n + 1) * (n + 1)) {i j : Nat} (hi : i ≤ n) (hj : j ≤ n) : limO (LC n d) m r i j = min (r i j) (d (i * (n + 1) + j)) := by
  refine eq_of_le fun x => ?_
  rw [le_limK]
  simp only [LC, Int.toNat_natCast]
  constructor
  · rintro ⟨h1, h2⟩
    have e1 := place_div (i := n - i) hj
    have e2 := place_mod (i := n - i) hj
    have := h2 ((n - i) * (n + 1) + j) (by rw [hm]; exact pos_lt (by omega) hj) (by rw [e1]; omega) e2
    rw [e1, e2, show n - (n - i) = i by omega] at this
    omega
  · intro h
    refine ⟨by omega, fun k hk e1 e2 => ?_⟩
    rw [e1, e2]
    omega
theorem lc_bnd (n : Nat) (d : Row) : ∀ K, bndA n (LC n d) K = true
  | 0 => rfl
  | K + 1 => by
    rw [show bndA n (LC n d) (K + 1) = (bndA n (LC n d) K && bndB n (LC n d) K) from rfl, lc_bnd n d K, Bool.true_and]
    show decide (0 ≤ ((n - K / (n + 1) : Nat) : Int) ∧ ((n - K / (n + 1) : Nat) : Int) ≤ (n : Int) ∧ 0 ≤ ((K % (n + 1) : Nat) : Int) ∧ ((K % (n + 1) : Nat) : Int) ≤ (n : Int)) = true
    refine decide_eq_true ?_
    have := Nat.mod_lt K (show 0 < n + 1 by omega)
    generalize K % (n + 1) = a at *
    generalize K / (n + 1) = b at *
    omega
theorem lc_rgt (n : Nat) (d : Row) (h : ∀ k, rightB (d k) = true) : ∀ K, rgtA (LC n d) K = true
  | 0 => rfl
  | K + 1 => by
    rw [show rgtA (LC n d) (K + 1) = (rgtA (LC n d) K && rightB (d ((n - K / (n + 1)) * (n + 1) + K % (n + 1)))) from rfl, lc_rgt n d h K, h]
    rfl
theorem rows_of {n m : Nat} {M : Mat} {l : Row} (hm : m = (n + 1) * (n + 1)) (h : ∀ i j, i ≤ n → j ≤ n → M i j = l (i * (n + 1) + j)) : rowsL n M (n + 1) = listOf l m := by
  rw [rowsL, ← hm]
  refine listOf_congr _ _ _ fun k hk => ?_
  rw [hm] at hk
  unfold flat
  rw [h _ _ (by have := Nat.div_lt_of_lt_mul hk; omega) (by have := Nat.mod_lt k (show 0 < n + 1 by omega); omega), Nat.mul_comm, Nat.div_add_mod]
theorem oR_at {n m : Nat} {c : Row} (hm : m = (n + 1) * (n + 1)) {i j : Nat} (hi : i ≤ n) (hj : j ≤ n) : oR n c m i j = c (i * (n + 1) + j) := by
  unfold oR
  rw [if_pos ⟨hj, by rw [hm]; exact pos_lt hi hj⟩]
theorem oand_one {n m : Nat} {c d : Row} (hm : m = (n + 1) * (n + 1)) : rowsL n (andK n m (fun _ => d) 1 (oR n c m)) (n + 1) = listOf (minR c d) m := rows_of hm fun i j hi hj => by
  show tgtM n d m (oR n c m) i j = _
  rw [tgt_at hm hi hj, oR_at hm hi hj]
  rfl
theorem and_two {n m : Nat} {c d : Row} (hm : m = (n + 1) * (n + 1)) : rowsL n (andK n m (fun k => if k = 0 then c else d) 2 (oR n d m)) (n + 1) = listOf (minR c d) m := rows_of hm fun i j hi hj => by
  show tgtM n d m (tgtM n c m (oR n d m)) i j = _
  rw [tgt_at hm hi hj, tgt_at hm hi hj, oR_at hm hi hj]
  unfold minR
  omega
theorem con_all {n m : Nat} {c d : Row} (hm : m = (n + 1) * (n + 1)) : rowsL n (limO (LC n d) m (oR n c m)) (n + 1) = listOf (minR c d) m := rows_of hm fun i j hi hj => by
  rw [lc_at hm hi hj, oR_at hm hi hj]
  rfl
/-- All cells may be. -/
theorem zc_right {n m : Nat} {c : Row} (hm : m = (n + 1) * (n + 1)) (h : ZC n m c) (k : Nat) : rightB (c k) = true := by
  rcases h with rfl | ⟨p, hp⟩
  · rfl
  · rw [hp.cells]
    unfold cellsUpto
    split
    · exact narB_right _
    · rfl
theorem right_min {c d : Row} {k : Nat} (h1 : rightB (c k) = true) (h2 : rightB (d k) = true) : rightB (minR c d k) = true := by
  have e : minR c d k = c k ∨ minR c d k = d k := by unfold minR; omega
  rcases e with e | e
  · rw [e]; exact h1
  · rw [e]; exact h2
/-- A zone's cells are below what it was made of. -/
theorem zone_below {n m : Nat} {l : Row} {c3 : Row} (hn : n ≤ 8) (hm : m = (n + 1) * (n + 1)) (hl : ∀ k, rightB (l k) = true) (hz : zoneR n (drf n m (listOf l m)) = some c3) : c3 = (fun _ => 0) ∨ (c3 0 = 1 ∧ ∀ k, k < m → c3 k ≤ l k) := by
  have hr : RightL m (listOf l m) := fun k hk => by
    rw [listOf_get _ _ _ hk]
    have := hl k
    simpa only [rightB, decide_eq_true_eq] using this
  have hO := drf_ok n m _ hm hr
  have hz' := hz
  unfold zoneR at hz
  rw [← hm] at hz
  cases e : closeR n (drf n m (listOf l m)) with
  | none =>
    rw [e] at hz
    cases hz
    exact .inl rfl
  | some p =>
    rw [e] at hz
    have hz : (if narAll n p m = true then some (cellsUpto n p m) else none) = some c3 := hz
    split at hz
    · rename_i na
      cases hz
      have R := close_rounds hn hO.fin hO.diag e
      have F : FullC n m p (cellsUpto n p m) := ⟨R.cl hn, fun j hj => Int.le_trans (R.le 0 j (by omega) hj) (drf_low n m _ hm j hj), na, rfl⟩
      refine .inr ⟨F.zero hm, fun k hk => ?_⟩
      have hk' := hk
      rw [hm] at hk'
      have d1 : k / (n + 1) ≤ n := by have := Nat.div_lt_of_lt_mul hk'; omega
      have d2 : k % (n + 1) ≤ n := by have := Nat.mod_lt k (show 0 < n + 1 by omega); omega
      have ek : k / (n + 1) * (n + 1) + k % (n + 1) = k := by rw [Nat.mul_comm]; exact Nat.div_add_mod k (n + 1)
      have a := F.at hm d1 d2
      rw [ek] at a
      rw [a]
      have le := R.le _ _ d1 d2
      rw [drf_at n m _ hm _ _ d1 d2, ek, listOf_get _ _ _ hk] at le
      have hlk := hl k
      simp only [rightB, decide_eq_true_eq] at hlk
      have ho := opn_val
      rcases narOk_cases (F.ok hm d1 d2) with ⟨h1, h2⟩ | ⟨h1, h2, h3, h4⟩
      · rw [h2]
        unfold tgV at le
        split at le
        · omega
        · omega
      · rw [h2]
        unfold tgV at le
        split at le
        · omega
        · omega
    · cases hz
end Go.Proofs.Ytohkbjkfpnhggaa

/-
  The hull of zones, in numbers.
-/
namespace Go.Proofs.Ytohkbjkfpnhggaa
open Go.RowKit
set_option linter.unusedVariables false
set_option maxRecDepth 100000
theorem ls_le {n : Nat} {c : Row} {r : Mat} {i j : Nat} {x : Int} : ∀ K, lsM n c K r i j ≤ x ↔ (r i j ≤ x ∧ ∀ k, k < K → k / (n + 1) = i → k % (n + 1) = j → c k ≤ x)
  | 0 => ⟨fun h => ⟨h, fun k hk => by omega⟩, fun h => h.1⟩
  | K + 1 => by
    have ih := ls_le (n := n) (c := c) (r := r) (i := i) (j := j) (x := x) K
    rw [show lsM n c (K + 1) r i j = if i = K / (n + 1) ∧ j = K % (n + 1) then max (lsM n c K r (K / (n + 1)) (K % (n + 1))) (c K) else lsM n c K r i j from rfl]
    by_cases e : i = K / (n + 1) ∧ j = K % (n + 1)
    · rw [if_pos e, ← e.1, ← e.2]
      constructor
      · intro h
        obtain ⟨h1, h2⟩ := ih.1 (by omega)
        refine ⟨h1, fun k hk e1 e2 => ?_⟩
        by_cases q : k = K
        · subst q; omega
        · exact h2 k (by omega) e1 e2
      · rintro ⟨h1, h2⟩
        have := ih.2 ⟨h1, fun k hk => h2 k (by omega)⟩
        have := h2 K (by omega) e.1.symm e.2.symm
        omega
    · rw [if_neg e, ih]
      constructor
      · rintro ⟨h1, h2⟩
        refine ⟨h1, fun k hk e1 e2 => ?_⟩
        by_cases q : k = K
        · subst q; exact absurd ⟨e1.symm, e2.symm⟩ e
        · exact h2 k (by omega) e1 e2
      · rintro ⟨h1, h2⟩
        exact ⟨h1, fun k hk => h2 k (by omega)⟩
theorem eq_of_ge {a b : Int} (h : ∀ x, a ≤ x ↔ b ≤ x) : a = b := Int.le_antisymm ((h b).2 (Int.le_refl _)) ((h a).1 (Int.le_refl _))
theorem ls_at {n m : Nat} {c : Row} {r : Mat} (hm : m = (n + 1) * (n + 1)) {i j : Nat} (hi : i ≤ n) (hj : j ≤ n) : lsM n c m r i j = max (r i j) (c (i * (n + 1) + j)) := by
  refine eq_of_ge fun x => ?_
  rw [ls_le]
  constructor
  · rintro ⟨h1, h2⟩
    have := h2 (i * (n + 1) + j) (by rw [hm]; exact pos_lt hi hj) (place_div hj) (place_mod hj)
    omega
  · intro h
    refine ⟨by omega, fun k hk e1 e2 => ?_⟩
    have : i * (n + 1) + j = k := by rw [← e1, ← e2, Nat.mul_comm]; exact Nat.div_add_mod k (n + 1)
    rw [← this]
    omega
def maxR (c d : Row) : Row := fun j => max (c j) (d j)
/-- The cells of a hull. -/
def hr (c : Row) (zc : Nat → Row) : Nat → Row
  | 0 => c
  | K + 1 => if decide (zc K 0 < 1) = true then hr c zc K else if decide (hr c zc K 0 < 1) = true then zc K else maxR (hr c zc K) (zc K)
theorem hull_at {n m : Nat} {c : Row} {zc : Nat → Row} (hm : m = (n + 1) * (n + 1)) : ∀ K i j, i ≤ n → j ≤ n → hullK n m c zc K i j = hr c zc K (i * (n + 1) + j)
  | 0, i, j, hi, hj => oR_at hm hi hj
  | K + 1, i, j, hi, hj => by
    have ih := hull_at (c := c) (zc := zc) hm K
    have h0 := ih 0 0 (by omega) (by omega)
    rw [Nat.zero_mul, Nat.zero_add] at h0
    unfold hullK hr
    rw [h0]
    by_cases e1 : decide (zc K 0 < 1) = true
    · rw [if_pos e1, if_pos e1]; exact ih i j hi hj
    · rw [if_neg e1, if_neg e1]
      by_cases e2 : decide (hr c zc K 0 < 1) = true
      · rw [if_pos e2, if_pos e2]; exact oR_at hm hi hj
      · rw [if_neg e2, if_neg e2, ls_at hm hi hj, ih i j hi hj]; rfl
theorem hull_rows {n m : Nat} {c : Row} {zc : Nat → Row} (hm : m = (n + 1) * (n + 1)) (K : Nat) : rowsL n (hullK n m c zc K) (n + 1) = listOf (hr c zc K) m := rows_of hm (hull_at hm K)
theorem narAll_of {n : Nat} {p : Mat} : ∀ m, (∀ k, k < m → narOk (flat n p k) = true) → narAll n p m = true
  | 0, _ => rfl
  | m + 1, h => by simp only [narAll, narAll_of m fun k hk => h k (by omega), h m (by omega), Bool.and_self]
theorem nar_max {x y : Int} (hx : narOk x = true) (hy : narOk y = true) : narOk (max x y) = true ∧ narB (max x y) = max (narB x) (narB y) := by
  have ho := opn_val
  by_cases l : x ≤ y
  · rw [show max x y = y by omega]
    refine ⟨hy, ?_⟩
    rcases narOk_cases hx with ⟨h1, h2⟩ | ⟨h1, h2, h3, h4⟩ <;> rcases narOk_cases hy with ⟨k1, k2⟩ | ⟨k1, k2, k3, k4⟩ <;> rw [h2, k2] <;> omega
  · rw [show max x y = x by omega]
    refine ⟨hx, ?_⟩
    rcases narOk_cases hx with ⟨h1, h2⟩ | ⟨h1, h2, h3, h4⟩ <;> rcases narOk_cases hy with ⟨k1, k2⟩ | ⟨k1, k2, k3, k4⟩ <;> rw [h2, k2] <;> omega
theorem full_max {n m : Nat} {p q : Mat} {c d : Row} (hm : m = (n + 1) * (n + 1)) (h1 : FullC n m p c) (h2 : FullC n m q d) : FullC n m (fun i j => max (p i j) (q i j)) (maxR c d) := by
  have fx : ∀ i j, i ≤ n → j ≤ n → Fin' 144115188075855872 (max (p i j) (q i j)) := fun i j hi hj => by
    by_cases l : p i j ≤ q i j
    · rw [show max (p i j) (q i j) = q i j by omega]; exact h2.cl.fin i j hi hj
    · rw [show max (p i j) (q i j) = p i j by omega]; exact h1.cl.fin i j hi hj
  have ok : ∀ k, k < m → narOk (flat n (fun i j => max (p i j) (q i j)) k) = true ∧ narB (flat n (fun i j => max (p i j) (q i j)) k) = max (narB (flat n p k)) (narB (flat n q k)) := fun k hk => nar_max (narAll_at h1.nar k hk) (narAll_at h2.nar k hk)
  refine ⟨⟨fx, fun i hi => ?_, fun k hk i j hi hj => ?_⟩, fun j hj => ?_, narAll_of m fun k hk => (ok k hk).1, ?_⟩
  · show max (p i i) (q i i) = 1
    rw [h1.cl.one i hi, h2.cl.one i hi]
    rfl
  · have hk' : k ≤ n := by omega
    have m1 : F (max (p i k) (q i k)) := (fx i k hi hk').mono (by decide)
    have m2 : F (max (p k j) (q k j)) := (fx k j hk' hj).mono (by decide)
    have t1 := h1.cl.tri k hk i j hi hj
    have t2 := h2.cl.tri k hk i j hi hj
    have u1 := pl_mono ((h1.cl.fin i k hi hk').mono (by decide)) ((h1.cl.fin k j hk' hj).mono (by decide)) m1 m2 (show p i k ≤ max (p i k) (q i k) by omega) (show p k j ≤ max (p k j) (q k j) by omega)
    have u2 := pl_mono ((h2.cl.fin i k hi hk').mono (by decide)) ((h2.cl.fin k j hk' hj).mono (by decide)) m1 m2 (show q i k ≤ max (p i k) (q i k) by omega) (show q k j ≤ max (p k j) (q k j) by omega)
    show max (p i j) (q i j) ≤ _
    omega
  · show max (p 0 j) (q 0 j) ≤ 1
    have := h1.low j hj
    have := h2.low j hj
    omega
  · funext k
    show max (c k) (d k) = _
    rw [h1.cells, h2.cells]
    unfold cellsUpto
    by_cases hk : k < m
    · rw [if_pos hk, if_pos hk, if_pos hk, (ok k hk).2]
    · rw [if_neg hk, if_neg hk, if_neg hk]; rfl
theorem zc_hr {n m : Nat} {c : Row} {zc : Nat → Row} (hm : m = (n + 1) * (n + 1)) (h : ZC n m c) (hz : ∀ k, ZC n m (zc k)) : ∀ K, ZC n m (hr c zc K)
  | 0 => h
  | K + 1 => by
    unfold hr
    split
    · exact zc_hr hm h hz K
    · rename_i e1
      split
      · exact hz K
      · rename_i e2
        rcases zc_hr hm h hz K with e | ⟨p, hp⟩
        · rw [e] at e2; exact absurd rfl e2
        · rcases hz K with e | ⟨q, hq⟩
          · rw [e] at e1; exact absurd rfl e1
          · exact .inr ⟨_, full_max hm hp hq⟩
/-- A zone's cells make the zone again. -/
theorem zc_zone {n m : Nat} {c : Row} (hn : n ≤ 8) (hm : m = (n + 1) * (n + 1)) (h : ZC n m c) : zoneR n (drf n m (listOf c m)) = some c := by
  rcases h with rfl | ⟨p, hp⟩
  · refine zone_hollow ?_
    rw [drf_at n m _ hm 0 0 (by omega) (by omega), listOf_get _ _ _ (show 0 * (n + 1) + 0 < m by rw [hm, Nat.zero_mul, Nat.zero_add]; exact Nat.mul_pos (Nat.succ_pos n) (Nat.succ_pos n))]
    decide
  · have e : ∀ i j, i ≤ n → j ≤ n → drf n m (listOf c m) i j = p i j := fun i j hi hj => by
      rw [drf_at n m _ hm i j hi hj, listOf_get _ _ _ (by rw [hm]; exact pos_lt hi hj), ← oR_at (c := c) hm hi hj]
      exact hp.pm hm hi hj
    have rR : RightL m (listOf c m) := fun k hk => by
      rw [listOf_get _ _ _ hk]
      have := zc_right hm (.inr ⟨p, hp⟩ : ZC n m c) k
      simpa only [rightB, decide_eq_true_eq] using this
    have O := drf_ok n m _ hm rR
    obtain ⟨p', h1, h2⟩ := close_above hn hp.cl O (fun i j hi hj => by rw [e i j hi hj]; exact Int.le_refl _)
    have R := close_rounds hn O.fin O.diag h1
    have eq : ∀ i j, i ≤ n → j ≤ n → p' i j = p i j := fun i j hi hj => Int.le_antisymm (by have := R.le i j hi hj; rw [e i j hi hj] at this; exact this) (h2 i j hi hj)
    have n1 : narAll n p' ((n + 1) * (n + 1)) = true := by rw [narAll_congr eq _ (Nat.le_refl _), ← hm]; exact hp.nar
    have n2 : cellsUpto n p' ((n + 1) * (n + 1)) = c := by rw [cellsUpto_congr eq _ (Nat.le_refl _), ← hm]; exact hp.cells.symm
    simp [zoneR, h1, n1, n2]
/-- Whether a zone includes another one. -/
def incB (m : Nat) (c d : Row) : Bool := decide (d 0 < 1) || nless c d m
theorem incB_iff {m : Nat} {c d : Row} : incB m c d = true ↔ (d 0 < 1 ∨ ∀ j, j < m → d j ≤ c j) := by
  unfold incB
  rw [Bool.or_eq_true, decide_eq_true_eq, nless_iff]
theorem inc_any (b o n m : Nat) (c d : Row) (w : World) (hz : ZoneAt w b n c) (hy : ZoneAt w o n d) (hn : n ≤ 8) (hm : m = (n + 1) * (n + 1)) :
    Calls Try.prog 11 #[.pointer (some ⟨b, 0, none⟩), .pointer (some ⟨o, 0, none⟩)] w fun e w' => e = .returned (.bool (incB m c d)) ∧ Below w.heap.size w w' := by
  unfold incB
  cases e : decide (d 0 < 1) with
  | true => exact includes_empty b o n c d w hz hy hn e
  | false => rw [Bool.false_or, hm]; exact includes_some b o n c d w hz hy hn e
theorem hr_cases (c : Row) (zc : Nat → Row) (K : Nat) : (zc K 0 < 1 ∧ hr c zc (K + 1) = hr c zc K) ∨ (¬ zc K 0 < 1 ∧ hr c zc K 0 < 1 ∧ hr c zc (K + 1) = zc K) ∨ (¬ zc K 0 < 1 ∧ ¬ hr c zc K 0 < 1 ∧ hr c zc (K + 1) = maxR (hr c zc K) (zc K)) := by
  rw [show hr c zc (K + 1) = if decide (zc K 0 < 1) = true then hr c zc K else if decide (hr c zc K 0 < 1) = true then zc K else maxR (hr c zc K) (zc K) from rfl]
  by_cases e1 : zc K 0 < 1
  · exact .inl ⟨e1, if_pos (decide_eq_true e1)⟩
  · rw [if_neg (by simpa using e1)]
    by_cases e2 : hr c zc K 0 < 1
    · exact .inr (.inl ⟨e1, e2, if_pos (decide_eq_true e2)⟩)
    · exact .inr (.inr ⟨e1, e2, if_neg (by simpa using e2)⟩)
theorem hr_up {m : Nat} {c e : Row} {zc : Nat → Row} (mp : 0 < m) {K : Nat} (h : incB m (hr c zc K) e = true) : incB m (hr c zc (K + 1)) e = true := by
  rw [incB_iff] at *
  rcases h with h | h
  · exact .inl h
  · rcases hr_cases c zc K with ⟨_, q⟩ | ⟨_, q0, q⟩ | ⟨_, _, q⟩
    · rw [q]; exact .inr h
    · have := h 0 mp
      exact .inl (by omega)
    · rw [q]
      exact .inr fun j hj => by have := h j hj; unfold maxR; omega
theorem hr_incl {m : Nat} {c : Row} {zc : Nat → Row} (mp : 0 < m) : ∀ K, incB m (hr c zc K) c = true ∧ ∀ k, k < K → incB m (hr c zc K) (zc k) = true
  | 0 => ⟨incB_iff.2 (.inr fun j _ => Int.le_refl _), fun k hk => by omega⟩
  | K + 1 => by
    obtain ⟨h1, h2⟩ := hr_incl (c := c) (zc := zc) mp K
    refine ⟨hr_up mp h1, fun k hk => ?_⟩
    by_cases q : k = K
    · subst q
      rw [incB_iff]
      rcases hr_cases c zc k with ⟨q, _⟩ | ⟨_, _, q⟩ | ⟨_, _, q⟩
      · exact .inl q
      · rw [q]; exact .inr fun j _ => Int.le_refl _
      · rw [q]; exact .inr fun j _ => by unfold maxR; omega
    · exact hr_up mp (h2 k (by omega))
theorem hr_least {m : Nat} {c o : Row} {zc : Nat → Row} (mp : 0 < m) (h : incB m o c = true) : ∀ K, (∀ k, k < K → incB m o (zc k) = true) → incB m o (hr c zc K) = true
  | 0, _ => h
  | K + 1, hk => by
    have ih := hr_least mp h K fun k hk' => hk k (by omega)
    have hK := hk K (by omega)
    rw [incB_iff] at *
    rcases hr_cases c zc K with ⟨_, q⟩ | ⟨q1, q0, q⟩ | ⟨q1, q0, q⟩
    · rw [q]; exact ih
    · rw [q]; exact hK
    · rw [q]
      right
      intro j hj
      have a := ih.resolve_left q0 j hj
      have b := hK.resolve_left q1 j hj
      unfold maxR
      omega
end Go.Proofs.Ytohkbjkfpnhggaa
