/-
  Which bounds a point keeps, as a test (no call).
-/
import Derived.Test.YteifpplemohdcaaGreatQ14
import Derived.Test.YteifpplemohdcaaGreatQ3
namespace Go.Proofs.YteifpplemohdcaaGreat
open Go.RowKit
set_option linter.unusedVariables false
def kRow (n : Nat) (l : List Int) (v : Nat → Int) (g : Int) (i : Nat) : Bool := (List.range (n + 1)).all fun j => holdsB (l.getD (i * (n + 1) + j) 0) (v i - v j) g
def kB (n : Nat) (l : List Int) (v : Nat → Int) (g : Int) : Bool := (List.range (n + 1)).all fun i => kRow n l v g i
theorem kRow_iff (n : Nat) (l : List Int) (v : Nat → Int) (g : Int) (i : Nat) : kRow n l v g i = true ↔ ∀ j, j ≤ n → holdsB (l.getD (i * (n + 1) + j) 0) (v i - v j) g = true := by
  unfold kRow
  rw [List.all_eq_true]
  constructor
  · intro h j hj
    exact h j (List.mem_range.2 (by omega))
  · intro h j hj
    have := List.mem_range.1 hj
    exact h j (by omega)
theorem kB_iff (n : Nat) (l : List Int) (v : Nat → Int) (g : Int) : kB n l v g = true ↔ ∀ i j, i ≤ n → j ≤ n → holdsB (l.getD (i * (n + 1) + j) 0) (v i - v j) g = true := by
  unfold kB
  rw [List.all_eq_true]
  constructor
  · intro h i j hi hj
    exact (kRow_iff n l v g i).1 (h i (List.mem_range.2 (by omega))) j hj
  · intro h i hi
    have := List.mem_range.1 hi
    exact (kRow_iff n l v g i).2 fun j hj => h i j (by omega) hj
end Go.Proofs.YteifpplemohdcaaGreat

/-
  Zones are their valuations: the numbers keep the cells that were handed in just if they keep the closed ones, and it is not empty; and the zone of closed cells is that zone.
-/
namespace Go.Proofs.YteifpplemohdcaaGreat
open Go.RowKit
set_option linter.unusedVariables false
set_option maxRecDepth 100000
theorem hB_inf (x g : Int) : holdsB 2147483647 x g = true := by unfold holdsB; simp
theorem hB_iff {b x g : Int} (hb : -536870912 ≤ b ∧ b ≤ 536870913) (hg : 1 ≤ g) : holdsB b x g = true ↔ holdsW b x g := by
  have hf : finB b = true := by unfold finB; simpa using hb
  have hv : valV b = b / 2 := by simp [valV, hf]
  have ho := opn_val
  have d2 : decide (1 ≤ g) = true := by simpa using hg
  have b2 : decide (b = 2147483647) = false := by simp; omega
  unfold holdsB holdsW
  rw [hf, d2, b2, hv]
  by_cases q : b % 2 = 1
  · have hr : valR b = true := by unfold valR; rw [hf]; simpa using q
    have e : (b - 1) * g = 2 * (b / 2 * g) := by rw [← Int.mul_assoc, show b - 1 = 2 * (b / 2) by omega]
    rw [hr, e]
    generalize b / 2 * g = z
    simp
    omega
  · have hr : valR b = false := by unfold valR; rw [hf]; simpa using q
    have e : b * g = 2 * (b / 2 * g) := by rw [← Int.mul_assoc, show b = 2 * (b / 2) by omega]; congr 1; omega
    rw [hr, e]
    generalize b / 2 * g = z
    simp
    omega
theorem tgV_holds {a x y g : Int} (hg : 1 ≤ g) (ha : F a) (hx : x = 2147483647 ∨ (-536870912 ≤ x ∧ x ≤ 536870913)) : holdsW (tgV a x) y g ↔ holdsW a y g ∧ holdsB x y g = true := by
  unfold tgV
  by_cases e : x = 2147483647
  · rw [if_pos e, e, hB_inf]
    simp
  · rw [if_neg e]
    have hx' : -536870912 ≤ x ∧ x ≤ 536870913 := by omega
    have fx : F x := .inr (by omega)
    rw [hB_iff hx' hg]
    by_cases q : a ≤ x
    · rw [show min a x = a by omega]
      exact ⟨fun h => ⟨h, holdsW_mono hg fx q h⟩, fun h => h.1⟩
    · rw [show min a x = x by omega]
      exact ⟨fun h => ⟨holdsW_mono hg ha (by omega) h, h⟩, fun h => h.2⟩
theorem start_at (n i j : Nat) (hi : i ≤ n) (hj : j ≤ n) : startR n (n + 1) 0 i j = startV i j := by
  unfold startR
  rw [if_pos (by omega)]
theorem start_holds {n : Nat} {v : Nat → Int} {g : Int} (hg : 1 ≤ g) (v0 : v 0 = 0) (vp : ∀ i, 0 ≤ v i) (i j : Nat) : holdsW (startV i j) (v i - v j) g := by
  unfold startV
  split
  · exact .inl rfl
  · rename_i h
    refine .inr (.inl ⟨by decide, ?_⟩)
    rw [show (1 : Int) - 1 = 0 by omega, Int.zero_mul]
    by_cases e : i = 0
    · rw [e, v0]
      have := vp j
      omega
    · have : i = j := by omega
      rw [this]
      omega
/-- The cells that were handed in, as a draft. -/
abbrev drf (n m : Nat) (l : List Int) : Mat := tgAll n l m (startR n (n + 1) 0)
theorem drf_at (n m : Nat) (l : List Int) (hm : m = (n + 1) * (n + 1)) (i j : Nat) (hi : i ≤ n) (hj : j ≤ n) : drf n m l i j = tgV (startV i j) (l.getD (i * (n + 1) + j) 0) := by
  unfold drf
  rw [tgAll_at _ _ _ _ (by omega), if_pos ⟨hi, hj, by rw [hm]; exact pos_lt hi hj⟩, start_at n i j hi hj]
def RightL (m : Nat) (l : List Int) : Prop := ∀ k, k < m → l.getD k 0 = 2147483647 ∨ (-536870912 ≤ l.getD k 0 ∧ l.getD k 0 ≤ 536870913)
theorem startV_fin (i j : Nat) : Fin' (Kb 0) (startV i j) := by
  unfold startV Fin'
  split
  · exact .inl rfl
  · exact .inr (by decide)
theorem drf_fin (n m : Nat) (l : List Int) (hm : m = (n + 1) * (n + 1)) (hr : RightL m l) : FinM n (Kb 0) (drf n m l) := by
  intro i j hi hj
  rw [drf_at n m l hm i j hi hj]
  have h1 := startV_fin i j
  have h2 := hr (i * (n + 1) + j) (by rw [hm]; exact pos_lt hi hj)
  have ho := opn_val
  have hk : Kb 0 = 1073741824 := rfl
  unfold tgV Fin' at *
  rw [hk] at h1 ⊢
  split
  · exact h1
  · omega
theorem drf_diag (n m : Nat) (l : List Int) (hm : m = (n + 1) * (n + 1)) (hr : RightL m l) (i : Nat) (hi : i ≤ n) : drf n m l i i ≤ 1 := by
  rw [drf_at n m l hm i i hi hi]
  have : startV i i = 1 := by unfold startV; rw [if_neg (by omega)]
  rw [this]
  unfold tgV
  split <;> omega
theorem drf_keeps (n m : Nat) (l : List Int) (v : Nat → Int) (g : Int) (hm : m = (n + 1) * (n + 1)) (hr : RightL m l) (hg : 1 ≤ g) (v0 : v 0 = 0) (vp : ∀ i, 0 ≤ v i) : kB n l v g = true ↔ keepsM n v g (drf n m l) := by
  rw [kB_iff]
  unfold keepsM
  constructor
  · intro h i j hi hj
    rw [drf_at n m l hm i j hi hj, tgV_holds hg ((startV_fin i j).mono (by decide)) (hr _ (by rw [hm]; exact pos_lt hi hj))]
    exact ⟨start_holds (n := n) hg v0 vp i j, h i j hi hj⟩
  · intro h i j hi hj
    have := h i j hi hj
    rw [drf_at n m l hm i j hi hj, tgV_holds hg ((startV_fin i j).mono (by decide)) (hr _ (by rw [hm]; exact pos_lt hi hj))] at this
    exact this.2
theorem narAll_at {n : Nat} {p : Mat} {m : Nat} (h : narAll n p m = true) (k : Nat) (hk : k < m) : narOk (flat n p k) = true := by
  induction m with
  | zero => omega
  | succ m ih =>
    simp only [narAll, Bool.and_eq_true] at h
    by_cases e : k = m
    · subst e; exact h.2
    · exact ih h.1 (by omega)
theorem flat_at (n : Nat) (p : Mat) (i j : Nat) (hj : j ≤ n) : flat n p (i * (n + 1) + j) = p i j := by
  unfold flat
  rw [Nat.add_comm, Nat.add_mul_div_right _ _ (by omega), Nat.div_eq_of_lt (by omega), Nat.zero_add, Nat.add_mul_mod_self_right, Nat.mod_eq_of_lt (by omega)]
theorem narB_holds {q x g : Int} (h : narOk q = true) (hg : 1 ≤ g) : holdsB (narB q) x g = true ↔ holdsW q x g := by
  unfold narOk at h
  unfold narB
  by_cases e : q = opn
  · rw [if_pos e, hB_inf]
    exact ⟨fun _ => .inl e, fun _ => rfl⟩
  · have h' : ¬ (q < -536870912 ∨ 536870913 < q) := by simpa [e] using h
    rw [if_neg e, if_neg h']
    exact hB_iff (by omega) hg
theorem cells_at (n m : Nat) (p : Mat) (hm : m = (n + 1) * (n + 1)) (i j : Nat) (hi : i ≤ n) (hj : j ≤ n) : (listOf (cellsUpto n p m) m).getD (i * (n + 1) + j) 0 = narB (p i j) := by
  have lt : i * (n + 1) + j < m := by rw [hm]; exact pos_lt hi hj
  rw [listOf_get _ _ _ lt]
  unfold cellsUpto
  rw [if_pos lt, flat_at n p i j hj]
theorem closed_keeps (n m : Nat) (p : Mat) (v : Nat → Int) (g : Int) (hm : m = (n + 1) * (n + 1)) (hg : 1 ≤ g) (hn : narAll n p m = true) : kB n (listOf (cellsUpto n p m) m) v g = true ↔ keepsM n v g p := by
  rw [kB_iff]
  unfold keepsM
  have ok : ∀ i j, i ≤ n → j ≤ n → narOk (p i j) = true := fun i j hi hj => by
    have := narAll_at hn (i * (n + 1) + j) (by rw [hm]; exact pos_lt hi hj)
    rw [flat_at n p i j hj] at this
    exact this
  constructor
  · intro h i j hi hj
    have := h i j hi hj
    rw [cells_at n m p hm i j hi hj, narB_holds (ok i j hi hj) hg] at this
    exact this
  · intro h i j hi hj
    rw [cells_at n m p hm i j hi hj, narB_holds (ok i j hi hj) hg]
    exact h i j hi hj
theorem close_one' {n : Nat} {r p : Mat} (h : ∀ i, i ≤ n → r i i ≤ 1) (e : closeR n r = some p) : One n p := by
  have e' := e
  rw [close_both h] at e'
  unfold closeR at e
  cases d : diagOk n r (n + 1)
  · rw [d] at e
    cases e
  · have o : One n r := fun i hi => by
      have := (diagOk_iff _ _ _).1 d i (by omega)
      have := h i hi
      omega
    exact (rounds_both o (n + 1) (Nat.le_refl _)).2 p e'
/-- A valuation keeps the cells just if it keeps the closed ones, and the zone is not empty. -/
theorem points_law (n m : Nat) (l : List Int) (c : Row) (v : Nat → Int) (g : Int) (hn : n ≤ 8) (hm : m = (n + 1) * (n + 1)) (hr : RightL m l) (hg : 1 ≤ g) (v0 : v 0 = 0) (vp : ∀ i, 0 ≤ v i) (hz : zoneR n (drf n m l) = some c) :
    kB n l v g = (kB n (listOf c m) v g && !decide (c 0 < 1)) := by
  have ck := close_keep (v := v) hg hn (drf_fin n m l hm hr) (drf_diag n m l hm hr)
  have mp : 0 < m := by rw [hm]; exact Nat.mul_pos (by omega) (by omega)
  unfold zoneR at hz
  rw [← hm] at hz
  cases e : closeR n (drf n m l) with
  | none =>
    rw [e] at hz ck
    cases hz
    have : kB n l v g = false := by
      cases q : kB n l v g
      · rfl
      · obtain ⟨p, h, _⟩ := ck.1 ((drf_keeps n m l v g hm hr hg v0 vp).1 q)
        cases h
    rw [this]
    simp
  | some p =>
    rw [e] at hz ck
    have hz : (if narAll n p m = true then some (cellsUpto n p m) else none) = some c := hz
    split at hz
    · rename_i hna
      cases hz
      have o := close_one' (drf_diag n m l hm hr) e 0 (by omega)
      have c0 : cellsUpto n p m 0 = 1 := by
        unfold cellsUpto flat
        rw [if_pos mp, Nat.zero_div, Nat.zero_mod, o]
        decide
      rw [c0]
      have : (!decide ((1 : Int) < 1)) = true := by decide
      rw [this, Bool.and_true, Bool.eq_iff_iff, closed_keeps n m p v g hm hg hna, drf_keeps n m l v g hm hr hg v0 vp, ck]
      constructor
      · rintro ⟨p', h, k⟩
        cases h
        exact k
      · intro k
        exact ⟨p, rfl, k⟩
    · cases hz
end Go.Proofs.YteifpplemohdcaaGreat
