/-
  Zones are their valuations: the numbers keep the cells that were handed in just if they keep the closed ones, and it is not empty; and the zone of closed cells is that zone.
-/
import Derived.Test.YtnfkmpickmonoaaGreatQ15
import Derived.Test.YtnfkmpickmonoaaGreatQ9
namespace Go.Proofs.YtnfkmpickmonoaaGreat
open Go.RowKit
set_option linter.unusedVariables false
set_option maxRecDepth 100000
theorem hB_inf (x g : Int) : holdsB 2147483647 x g = true := by unfold holdsB; simp
theorem hB_iff {b x g : Int} (hb : -536870912 ≤ b ∧ b ≤ 536870913) (hg : 1 ≤ g) : holdsB b x g = true ↔ holdsW b x g := by
  have hf : finB b = true := by unfold finB; simpa using hb
  have hv : valV b = b / 2 := by simp [valV, hf]
  have ho := opn_val
  have d2 : decide (1 ≤ g) = true := by simpa using hg
  have b2 : decide (b = 2147483647) = false := by simp; omega
  unfold holdsB holdsW
  rw [hf, d2, b2, hv]
  by_cases q : b % 2 = 1
  · have hr : valR b = true := by unfold valR; rw [hf]; simpa using q
    have e : (b - 1) * g = 2 * (b / 2 * g) := by rw [← Int.mul_assoc, show b - 1 = 2 * (b / 2) by omega]
    rw [hr, e]
    generalize b / 2 * g = z
    simp
    omega
  · have hr : valR b = false := by unfold valR; rw [hf]; simpa using q
    have e : b * g = 2 * (b / 2 * g) := by rw [← Int.mul_assoc, show b = 2 * (b / 2) by omega]; congr 1; omega
    rw [hr, e]
    generalize b / 2 * g = z
    simp
    omega
theorem tgV_holds {a x y g : Int} (hg : 1 ≤ g) (ha : F a) (hx : x = 2147483647 ∨ (-536870912 ≤ x ∧ x ≤ 536870913)) : holdsW (tgV a x) y g ↔ holdsW a y g ∧ holdsB x y g = true := by
  unfold tgV
  by_cases e : x = 2147483647
  · rw [if_pos e, e, hB_inf]
    simp
  · rw [if_neg e]
    have hx' : -536870912 ≤ x ∧ x ≤ 536870913 := by omega
    have fx : F x := .inr (by omega)
    rw [hB_iff hx' hg]
    by_cases q : a ≤ x
    · rw [show min a x = a by omega]
      exact ⟨fun h => ⟨h, holdsW_mono hg fx q h⟩, fun h => h.1⟩
    · rw [show min a x = x by omega]
      exact ⟨fun h => ⟨holdsW_mono hg ha (by omega) h, h⟩, fun h => h.2⟩
theorem start_at (n i j : Nat) (hi : i ≤ n) (hj : j ≤ n) : startR n (n + 1) 0 i j = startV i j := by
  unfold startR
  rw [if_pos (by omega)]
theorem start_holds {n : Nat} {v : Nat → Int} {g : Int} (hg : 1 ≤ g) (v0 : v 0 = 0) (vp : ∀ i, 0 ≤ v i) (i j : Nat) : holdsW (startV i j) (v i - v j) g := by
  unfold startV
  split
  · exact .inl rfl
  · rename_i h
    refine .inr (.inl ⟨by decide, ?_⟩)
    rw [show (1 : Int) - 1 = 0 by omega, Int.zero_mul]
    by_cases e : i = 0
    · rw [e, v0]
      have := vp j
      omega
    · have : i = j := by omega
      rw [this]
      omega
/-- The cells that were handed in, as a draft. -/
abbrev drf (n m : Nat) (l : List Int) : Mat := tgAll n l m (startR n (n + 1) 0)
theorem drf_at (n m : Nat) (l : List Int) (hm : m = (n + 1) * (n + 1)) (i j : Nat) (hi : i ≤ n) (hj : j ≤ n) : drf n m l i j = tgV (startV i j) (l.getD (i * (n + 1) + j) 0) := by
  unfold drf
  rw [tgAll_at _ _ _ _ (by omega), if_pos ⟨hi, hj, by rw [hm]; exact pos_lt hi hj⟩, start_at n i j hi hj]
def RightL (m : Nat) (l : List Int) : Prop := ∀ k, k < m → l.getD k 0 = 2147483647 ∨ (-536870912 ≤ l.getD k 0 ∧ l.getD k 0 ≤ 536870913)
theorem startV_fin (i j : Nat) : Fin' (Kb 0) (startV i j) := by
  unfold startV Fin'
  split
  · exact .inl rfl
  · exact .inr (by decide)
theorem drf_fin (n m : Nat) (l : List Int) (hm : m = (n + 1) * (n + 1)) (hr : RightL m l) : FinM n (Kb 0) (drf n m l) := by
  intro i j hi hj
  rw [drf_at n m l hm i j hi hj]
  have h1 := startV_fin i j
  have h2 := hr (i * (n + 1) + j) (by rw [hm]; exact pos_lt hi hj)
  have ho := opn_val
  have hk : Kb 0 = 1073741824 := rfl
  unfold tgV Fin' at *
  rw [hk] at h1 ⊢
  split
  · exact h1
  · omega
theorem drf_diag (n m : Nat) (l : List Int) (hm : m = (n + 1) * (n + 1)) (hr : RightL m l) (i : Nat) (hi : i ≤ n) : drf n m l i i ≤ 1 := by
  rw [drf_at n m l hm i i hi hi]
  have : startV i i = 1 := by unfold startV; rw [if_neg (by omega)]
  rw [this]
  unfold tgV
  split <;> omega
theorem drf_keeps (n m : Nat) (l : List Int) (v : Nat → Int) (g : Int) (hm : m = (n + 1) * (n + 1)) (hr : RightL m l) (hg : 1 ≤ g) (v0 : v 0 = 0) (vp : ∀ i, 0 ≤ v i) : kB n l v g = true ↔ keepsM n v g (drf n m l) := by
  rw [kB_iff]
  unfold keepsM
  constructor
  · intro h i j hi hj
    rw [drf_at n m l hm i j hi hj, tgV_holds hg ((startV_fin i j).mono (by decide)) (hr _ (by rw [hm]; exact pos_lt hi hj))]
    exact ⟨start_holds (n := n) hg v0 vp i j, h i j hi hj⟩
  · intro h i j hi hj
    have := h i j hi hj
    rw [drf_at n m l hm i j hi hj, tgV_holds hg ((startV_fin i j).mono (by decide)) (hr _ (by rw [hm]; exact pos_lt hi hj))] at this
    exact this.2
theorem narAll_at {n : Nat} {p : Mat} {m : Nat} (h : narAll n p m = true) (k : Nat) (hk : k < m) : narOk (flat n p k) = true := by
  induction m with
  | zero => omega
  | succ m ih =>
    simp only [narAll, Bool.and_eq_true] at h
    by_cases e : k = m
    · subst e; exact h.2
    · exact ih h.1 (by omega)
theorem flat_at (n : Nat) (p : Mat) (i j : Nat) (hj : j ≤ n) : flat n p (i * (n + 1) + j) = p i j := by
  unfold flat
  rw [Nat.add_comm, Nat.add_mul_div_right _ _ (by omega), Nat.div_eq_of_lt (by omega), Nat.zero_add, Nat.add_mul_mod_self_right, Nat.mod_eq_of_lt (by omega)]
theorem narB_holds {q x g : Int} (h : narOk q = true) (hg : 1 ≤ g) : holdsB (narB q) x g = true ↔ holdsW q x g := by
  unfold narOk at h
  unfold narB
  by_cases e : q = opn
  · rw [if_pos e, hB_inf]
    exact ⟨fun _ => .inl e, fun _ => rfl⟩
  · have h' : ¬ (q < -536870912 ∨ 536870913 < q) := by simpa [e] using h
    rw [if_neg e, if_neg h']
    exact hB_iff (by omega) hg
theorem cells_at (n m : Nat) (p : Mat) (hm : m = (n + 1) * (n + 1)) (i j : Nat) (hi : i ≤ n) (hj : j ≤ n) : (listOf (cellsUpto n p m) m).getD (i * (n + 1) + j) 0 = narB (p i j) := by
  have lt : i * (n + 1) + j < m := by rw [hm]; exact pos_lt hi hj
  rw [listOf_get _ _ _ lt]
  unfold cellsUpto
  rw [if_pos lt, flat_at n p i j hj]
theorem closed_keeps (n m : Nat) (p : Mat) (v : Nat → Int) (g : Int) (hm : m = (n + 1) * (n + 1)) (hg : 1 ≤ g) (hn : narAll n p m = true) : kB n (listOf (cellsUpto n p m) m) v g = true ↔ keepsM n v g p := by
  rw [kB_iff]
  unfold keepsM
  have ok : ∀ i j, i ≤ n → j ≤ n → narOk (p i j) = true := fun i j hi hj => by
    have := narAll_at hn (i * (n + 1) + j) (by rw [hm]; exact pos_lt hi hj)
    rw [flat_at n p i j hj] at this
    exact this
  constructor
  · intro h i j hi hj
    have := h i j hi hj
    rw [cells_at n m p hm i j hi hj, narB_holds (ok i j hi hj) hg] at this
    exact this
  · intro h i j hi hj
    rw [cells_at n m p hm i j hi hj, narB_holds (ok i j hi hj) hg]
    exact h i j hi hj
theorem close_one' {n : Nat} {r p : Mat} (h : ∀ i, i ≤ n → r i i ≤ 1) (e : closeR n r = some p) : One n p := by
  have e' := e
  rw [close_both h] at e'
  unfold closeR at e
  cases d : diagOk n r (n + 1)
  · rw [d] at e
    cases e
  · have o : One n r := fun i hi => by
      have := (diagOk_iff _ _ _).1 d i (by omega)
      have := h i hi
      omega
    exact (rounds_both o (n + 1) (Nat.le_refl _)).2 p e'
/-- A valuation keeps the cells just if it keeps the closed ones, and the zone is not empty. -/
theorem points_law (n m : Nat) (l : List Int) (c : Row) (v : Nat → Int) (g : Int) (hn : n ≤ 8) (hm : m = (n + 1) * (n + 1)) (hr : RightL m l) (hg : 1 ≤ g) (v0 : v 0 = 0) (vp : ∀ i, 0 ≤ v i) (hz : zoneR n (drf n m l) = some c) :
    kB n l v g = (kB n (listOf c m) v g && !decide (c 0 < 1)) := by
  have ck := close_keep (v := v) hg hn (drf_fin n m l hm hr) (drf_diag n m l hm hr)
  have mp : 0 < m := by rw [hm]; exact Nat.mul_pos (by omega) (by omega)
  unfold zoneR at hz
  rw [← hm] at hz
  cases e : closeR n (drf n m l) with
  | none =>
    rw [e] at hz ck
    cases hz
    have : kB n l v g = false := by
      cases q : kB n l v g
      · rfl
      · obtain ⟨p, h, _⟩ := ck.1 ((drf_keeps n m l v g hm hr hg v0 vp).1 q)
        cases h
    rw [this]
    simp
  | some p =>
    rw [e] at hz ck
    have hz : (if narAll n p m = true then some (cellsUpto n p m) else none) = some c := hz
    split at hz
    · rename_i hna
      cases hz
      have o := close_one' (drf_diag n m l hm hr) e 0 (by omega)
      have c0 : cellsUpto n p m 0 = 1 := by
        unfold cellsUpto flat
        rw [if_pos mp, Nat.zero_div, Nat.zero_mod, o]
        decide
      rw [c0]
      have : (!decide ((1 : Int) < 1)) = true := by decide
      rw [this, Bool.and_true, Bool.eq_iff_iff, closed_keeps n m p v g hm hg hna, drf_keeps n m l v g hm hr hg v0 vp, ck]
      constructor
      · rintro ⟨p', h, k⟩
        cases h
        exact k
      · intro k
        exact ⟨p, rfl, k⟩
    · cases hz
end Go.Proofs.YtnfkmpickmonoaaGreat

/-
  A closed form with one bound more: it is not empty, if the bound does not go against the opposite one.
-/
namespace Go.Proofs.YtnfkmpickmonoaaGreat
open Go.RowKit
set_option linter.unusedVariables false
set_option maxRecDepth 100000
theorem rounds_above {n : Nat} {r q : Mat} (hn : n ≤ 8) (hf : FinM n (Kb 0) r) (ho : One n r) (fq : FinM n 144115188075855872 q) (oq : One n q) (tq : Tri n (n + 1) q) (le : ∀ i j, i ≤ n → j ≤ n → q i j ≤ r i j) (c : Nat) (hc : c ≤ n + 1) : ∃ p, clAll n c r = some p ∧ ∀ i j, i ≤ n → j ≤ n → q i j ≤ p i j := by
  induction c with
  | zero => exact ⟨r, rfl, le⟩
  | succ c ih =>
    obtain ⟨p, ep, lp⟩ := ih (by omega)
    have R := rounds_of hn hf ho c (by omega) p ep
    have bd := Kb_bd c (by omega)
    have hs := still_of (k := c) (by omega) R.fin R.one (by omega)
    have ff : ∀ i j, i ≤ n → j ≤ n → F (p i j) := fun i j hi hj => (R.fin i j hi hj).mono (by omega)
    have fg : ∀ i j, i ≤ n → j ≤ n → F (q i j) := fun i j hi hj => (fq i j hi hj).mono (by decide)
    have key : ∀ i j, i ≤ n → j ≤ n → q i j ≤ pl (p i c) (p c j) := fun i j hi hj => Int.le_trans (tq c (by omega) i j hi hj) (pl_mono (fg i c hi (by omega)) (fg c j (by omega) hj) (ff i c hi (by omega)) (ff c j (by omega) hj) (lp i c hi (by omega)) (lp c j (by omega) hj))
    rcases all_mid hs R.one (by omega) (n + 1) (Nat.le_refl _) with e2 | ⟨e2, i, hi, h⟩
    · refine ⟨midR n c p (n + 1) 0, by simp [clAll, ep, e2], fun i j hi hj => ?_⟩
      rw [mid_all]
      unfold tgt
      rw [if_pos ⟨hi, hj⟩, dplus_pl (R.fin i c hi (by omega)) (R.fin c j (by omega) hj) (by omega)]
      have := key i j hi hj
      have := lp i j hi hj
      omega
    · exfalso
      rw [dplus_pl (R.fin i c hi (by omega)) (R.fin c i (by omega) hi) (by omega)] at h
      have := key i i hi hi
      rw [oq i hi] at this
      omega
end Go.Proofs.YtnfkmpickmonoaaGreat

/-
  Which zone a matrix makes hangs on the closed matrices below it alone.
-/
namespace Go.Proofs.YtnfkmpickmonoaaGreat
open Go.RowKit
set_option linter.unusedVariables false
/-- A closed matrix. -/
structure Cl (n : Nat) (q : Mat) : Prop where
  fin : FinM n 144115188075855872 q
  one : One n q
  tri : Tri n (n + 1) q
def Le (n : Nat) (q r : Mat) : Prop := ∀ i j, i ≤ n → j ≤ n → q i j ≤ r i j
/-- A matrix that may be closed. -/
structure Ok (n : Nat) (r : Mat) : Prop where
  fin : FinM n (Kb 0) r
  diag : ∀ i, i ≤ n → r i i ≤ 1
theorem Rounds.cl {n : Nat} {r p : Mat} (hn : n ≤ 8) (h : Rounds n (n + 1) r p) : Cl n p := ⟨fin_mono h.fin (Kb_bd (n + 1) (by omega)).2, h.one, h.tri⟩
theorem one_of {n : Nat} {q r : Mat} (hq : Cl n q) (hr : Ok n r) (h : Le n q r) : One n r := fun i hi => by
  have := hq.one i hi
  have := h i i hi hi
  have := hr.diag i hi
  omega
/-- The greatest closed matrix below. -/
theorem close_above {n : Nat} {q r : Mat} (hn : n ≤ 8) (hq : Cl n q) (hr : Ok n r) (h : Le n q r) : ∃ p, closeR n r = some p ∧ Le n q p := by
  have o := one_of hq hr h
  obtain ⟨p, hp, hl⟩ := rounds_above hn hr.fin o hq.fin hq.one hq.tri h (n + 1) (Nat.le_refl _)
  refine ⟨p, ?_, hl⟩
  unfold closeR
  rw [o.ok]
  exact hp
theorem narAll_congr {n : Nat} {p q : Mat} (h : ∀ i j, i ≤ n → j ≤ n → p i j = q i j) : ∀ m, m ≤ (n + 1) * (n + 1) → narAll n p m = narAll n q m
  | 0, _ => rfl
  | m + 1, hm => by
    have d1 : m / (n + 1) ≤ n := by have := Nat.div_lt_of_lt_mul (show m < (n + 1) * (n + 1) by omega); omega
    have d2 : m % (n + 1) ≤ n := by have := Nat.mod_lt m (show 0 < n + 1 by omega); omega
    simp only [narAll, narAll_congr h m (by omega), flat, h _ _ d1 d2]
theorem cellsUpto_congr {n : Nat} {p q : Mat} (h : ∀ i j, i ≤ n → j ≤ n → p i j = q i j) (m : Nat) (hm : m ≤ (n + 1) * (n + 1)) : cellsUpto n p m = cellsUpto n q m := by
  funext k
  unfold cellsUpto
  split
  · rename_i hk
    have d1 : k / (n + 1) ≤ n := by have := Nat.div_lt_of_lt_mul (show k < (n + 1) * (n + 1) by omega); omega
    have d2 : k % (n + 1) ≤ n := by have := Nat.mod_lt k (show 0 < n + 1 by omega); omega
    simp only [flat, h _ _ d1 d2]
  · rfl
theorem tgV_narr {s q : Int} (hs : s = opn ∨ s = 1) (le : q ≤ s) (ok : narOk q = true) : tgV s (narB q) = q := by
  have ho := opn_val
  by_cases e : q = opn
  · have : narB q = 2147483647 := by unfold narB; rw [if_pos e]
    rw [this]
    unfold tgV
    rw [if_pos rfl]
    omega
  · have h' : ¬ (q < -536870912 ∨ 536870913 < q) := by unfold narOk at ok; simpa [e] using ok
    have : narB q = q := by unfold narB; rw [if_neg e, if_neg h']
    rw [this]
    unfold tgV
    rw [if_neg (by omega)]
    omega
theorem drf_ok (n m : Nat) (l : List Int) (hm : m = (n + 1) * (n + 1)) (hr : RightL m l) : Ok n (drf n m l) := ⟨drf_fin n m l hm hr, drf_diag n m l hm hr⟩
end Go.Proofs.YtnfkmpickmonoaaGreat

/-
  What becomes of zones by both ways, in numbers: the cells of a zone, Up, Down.
-/
namespace Go.Proofs.YtnfkmpickmonoaaGreat
open Go.RowKit
set_option linter.unusedVariables false
/-- The closed form behind a zone's cells. -/
structure FullC (n m : Nat) (p : Mat) (c : Row) : Prop where
  cl : Cl n p
  low : ∀ j, j ≤ n → p 0 j ≤ 1
  nar : narAll n p m = true
  cells : c = cellsUpto n p m
def ZC (n m : Nat) (c : Row) : Prop := c = (fun _ => 0) ∨ ∃ p, FullC n m p c
theorem zc_of {n m : Nat} {r : Mat} {c : Row} (hn : n ≤ 8) (hm : m = (n + 1) * (n + 1)) (hr : Ok n r) (h0 : ∀ j, j ≤ n → r 0 j ≤ 1) (hz : zoneR n r = some c) : ZC n m c := by
  unfold zoneR at hz
  rw [← hm] at hz
  cases e : closeR n r with
  | none =>
    rw [e] at hz
    cases hz
    exact .inl rfl
  | some p =>
    rw [e] at hz
    have hz : (if narAll n p m = true then some (cellsUpto n p m) else none) = some c := hz
    split at hz
    · rename_i na
      cases hz
      have R := close_rounds hn hr.fin hr.diag e
      exact .inr ⟨p, R.cl hn, fun j hj => Int.le_trans (R.le 0 j (by omega) hj) (h0 j hj), na, rfl⟩
    · cases hz
theorem drf_low (n m : Nat) (l : List Int) (hm : m = (n + 1) * (n + 1)) (j : Nat) (hj : j ≤ n) : drf n m l 0 j ≤ 1 := by
  rw [drf_at n m l hm 0 j (by omega) hj]
  have : startV 0 j = 1 := by unfold startV; rw [if_neg (by omega)]
  rw [this]
  unfold tgV
  split <;> omega
theorem zc_drf {n m : Nat} {l : List Int} {c : Row} (hn : n ≤ 8) (hm : m = (n + 1) * (n + 1)) (hr : RightL m l) (hz : zoneR n (drf n m l) = some c) : ZC n m c :=
  zc_of hn hm (drf_ok n m l hm hr) (fun j hj => drf_low n m l hm j hj) hz
theorem FullC.ok {n m : Nat} {p : Mat} {c : Row} (h : FullC n m p c) (hm : m = (n + 1) * (n + 1)) {i j : Nat} (hi : i ≤ n) (hj : j ≤ n) : narOk (p i j) = true := by
  have := narAll_at h.nar (i * (n + 1) + j) (by rw [hm]; exact pos_lt hi hj)
  rwa [flat_at n p i j hj] at this
theorem FullC.at {n m : Nat} {p : Mat} {c : Row} (h : FullC n m p c) (hm : m = (n + 1) * (n + 1)) {i j : Nat} (hi : i ≤ n) (hj : j ≤ n) : c (i * (n + 1) + j) = narB (p i j) := by
  rw [h.cells]
  unfold cellsUpto
  rw [if_pos (by rw [hm]; exact pos_lt hi hj), flat_at n p i j hj]
theorem narOk_cases {q : Int} (h : narOk q = true) : (q = opn ∧ narB q = 2147483647) ∨ (¬ q = opn ∧ narB q = q ∧ -536870912 ≤ q ∧ q ≤ 536870913) := by
  by_cases e : q = opn
  · exact .inl ⟨e, by unfold narB; rw [if_pos e]⟩
  · have h' : ¬ (q < -536870912 ∨ 536870913 < q) := by unfold narOk at h; simpa [e] using h
    exact .inr ⟨e, by unfold narB; rw [if_neg e, if_neg h'], by omega, by omega⟩
theorem FullC.le {n m : Nat} {p : Mat} {c : Row} (h : FullC n m p c) {i j : Nat} (hi : i ≤ n) (hj : j ≤ n) : p i j ≤ startV i j := by
  unfold startV
  have ho := opn_val
  split
  · have f := h.cl.fin i j hi hj
    unfold Fin' at f
    omega
  · by_cases i0 : i = 0
    · subst i0
      exact h.low j hj
    · obtain rfl : i = j := by omega
      have := h.cl.one i hi
      omega
def RightM (n : Nat) (M : Mat) : Prop := ∀ i j, i ≤ n → j ≤ n → M i j = 2147483647 ∨ (-536870912 ≤ M i j ∧ M i j ≤ 536870913)
theorem right_rows {n m : Nat} {M : Mat} (hm : m = (n + 1) * (n + 1)) (h : RightM n M) : RightL m (rowsL n M (n + 1)) := fun k hk => by
  rw [rowsL, listOf_get _ _ _ (by rw [← hm]; exact hk)]
  unfold flat
  rw [hm] at hk
  exact h _ _ (by have := Nat.div_lt_of_lt_mul hk; omega) (by have := Nat.mod_lt k (show 0 < n + 1 by omega); omega)
theorem FullC.oR {n m : Nat} {p : Mat} {c : Row} (h : FullC n m p c) (hm : m = (n + 1) * (n + 1)) {i j : Nat} (hi : i ≤ n) (hj : j ≤ n) : Go.Proofs.YtnfkmpickmonoaaGreat.oR n c m i j = narB (p i j) := by
  unfold Go.Proofs.YtnfkmpickmonoaaGreat.oR
  rw [if_pos ⟨hj, by rw [hm]; exact pos_lt hi hj⟩, h.at hm hi hj]
theorem FullC.pm {n m : Nat} {p : Mat} {c : Row} (h : FullC n m p c) (hm : m = (n + 1) * (n + 1)) {i j : Nat} (hi : i ≤ n) (hj : j ≤ n) : tgV (startV i j) (Go.Proofs.YtnfkmpickmonoaaGreat.oR n c m i j) = p i j := by
  rw [h.oR hm hi hj]
  exact tgV_narr (by unfold startV; split; exact .inl rfl; exact .inr rfl) (h.le hi hj) (h.ok hm hi hj)
theorem FullC.zero {n m : Nat} {p : Mat} {c : Row} (h : FullC n m p c) (hm : m = (n + 1) * (n + 1)) : c 0 = 1 := by
  have := h.at hm (i := 0) (j := 0) (by omega) (by omega)
  rw [h.cl.one 0 (by omega), show narB 1 = 1 by decide] at this
  simpa using this
theorem zone_hollow {n : Nat} {r : Mat} (h : r 0 0 < 1) : zoneR n r = some (fun _ => 0) := by
  have hd : diagOk n r (n + 1) = false := diagOk_false (c := 1) (n + 1) (by omega) (by simp [diagOk]; omega)
  unfold zoneR closeR
  rw [hd]
  rfl
/-! ### Up -/
/-! ### Down -/
end Go.Proofs.YtnfkmpickmonoaaGreat
