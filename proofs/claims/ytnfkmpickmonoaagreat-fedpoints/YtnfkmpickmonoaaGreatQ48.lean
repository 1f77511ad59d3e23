/-
  fed: valuations in D parts: what a closed zone holds (out of Uq4, Uq7, PtL).
-/
import Derived.Test.YtnfkmpickmonoaaGreatQ36
import Derived.Test.YtnfkmpickmonoaaGreatQ47
import Derived.Test.YtnfkmpickmonoaaGreatQ33
namespace Go.Proofs.YtnfkmpickmonoaaGreat
open Go.RowKit Go.Shelf
set_option linter.unusedVariables false
set_option maxRecDepth 100000
/-- A valuation: 0 ahead, none below 0. -/
structure Pt (V : Nat → Int) : Prop where
  z : V 0 = 0
  p : ∀ i, 0 ≤ V i
def inV (n m : Nat) (c : Row) (V : Nat → Int) (D : Int) : Bool := kB n (listOf c m) V D
def kM (n : Nat) (M : Mat) (V : Nat → Int) (D : Int) : Prop := ∀ i j, i ≤ n → j ≤ n → holdsB (M i j) (V i - V j) D = true
abbrev RB (b : Int) : Prop := b = 2147483647 ∨ (-536870912 ≤ b ∧ b ≤ 536870913)
theorem mulLe {a b D : Int} (hD : 1 ≤ D) (h : a ≤ b) : a * D ≤ b * D := Int.mul_le_mul_of_nonneg_right h (by omega)
theorem hBD_iff {b d D : Int} (hD : 1 ≤ D) (hb : RB b) : holdsB b d D = true ↔ b = 2147483647 ∨ (b % 2 = 1 ∧ 2 * d ≤ (b - 1) * D) ∨ (b % 2 = 0 ∧ 2 * d < b * D) := by
  by_cases e : b = 2147483647
  · subst e
    constructor
    · intro _; exact .inl rfl
    · intro _; unfold holdsB; simp
  · have hf : finB b = true := decide_eq_true (by unfold RB at hb; omega)
    unfold holdsB
    rw [decide_eq_false e, hf, decide_eq_true hD]
    by_cases o : b % 2 = 1
    · have e2 : (b - 1) * D = 2 * (valV b * D) := by
        rw [← Int.mul_assoc]; congr 1; unfold valV; rw [if_pos hf]; omega
      unfold valR
      rw [hf, decide_eq_true o, e2]
      simp
      omega
    · have e2 : b * D = 2 * (valV b * D) := by
        rw [← Int.mul_assoc]; congr 1; unfold valV; rw [if_pos hf]; omega
      unfold valR
      rw [hf, decide_eq_false o, e2]
      simp
      omega
theorem le_bound {a b x D : Int} (hD : 1 ≤ D) (h : a ≤ b) (k : (a % 2 = 1 ∧ x ≤ (a - 1) * D) ∨ (a % 2 = 0 ∧ x < a * D)) : (b % 2 = 1 ∧ x ≤ (b - 1) * D) ∨ (b % 2 = 0 ∧ x < b * D) := by
  rcases k with ⟨o, k⟩ | ⟨o, k⟩
  · by_cases p : b % 2 = 1
    · exact .inl ⟨p, Int.le_trans k (mulLe hD (by omega))⟩
    · have h1 := mulLe hD (show a - 1 ≤ b - 2 by omega)
      rw [Int.sub_mul b 2 D] at h1
      exact .inr ⟨by omega, by omega⟩
  · by_cases p : b % 2 = 1
    · have h1 := mulLe hD (show a ≤ b - 1 by omega)
      exact .inl ⟨p, by omega⟩
    · have h1 := mulLe hD h
      exact .inr ⟨by omega, by omega⟩
theorem hB_le {a b d D : Int} (hD : 1 ≤ D) (ha : RB a) (hb : RB b) (h : a ≤ b) (k : holdsB a d D = true) : holdsB b d D = true := by
  rw [hBD_iff hD ha] at k
  rw [hBD_iff hD hb]
  rcases k with k | k
  · left; unfold RB at hb; omega
  · exact .inr (le_bound hD h k)
theorem hB_min {a b d D : Int} (hD : 1 ≤ D) (ha : RB a) (hb : RB b) : holdsB (min a b) d D = true ↔ holdsB a d D = true ∧ holdsB b d D = true := by
  by_cases h : a ≤ b
  · rw [show min a b = a by omega]
    exact ⟨fun k => ⟨k, hB_le hD ha hb h k⟩, fun k => k.1⟩
  · rw [show min a b = b by omega]
    exact ⟨fun k => ⟨hB_le hD hb ha (by omega) k, k⟩, fun k => k.2⟩
theorem no_zero {D : Int} (hD : 1 ≤ D) (h : holdsB 0 0 D = true) : False := by
  rw [hBD_iff hD (.inr ⟨by omega, by omega⟩), Int.zero_mul] at h
  omega
theorem kB_oR {D : Int} {n m : Nat} {c : Row} {V : Nat → Int} (hm : m = (n + 1) * (n + 1)) : inV n m c V D = true ↔ kM n (oR n c m) V D := by
  unfold inV
  rw [kB_iff]
  constructor
  · intro h i j hi hj
    have := h i j hi hj
    rw [listOf_get _ _ _ (by rw [hm]; exact pos_lt hi hj)] at this
    rw [oR_at hm hi hj]; exact this
  · intro h i j hi hj
    have := h i j hi hj
    rw [oR_at hm hi hj] at this
    rw [listOf_get _ _ _ (by rw [hm]; exact pos_lt hi hj)]; exact this
/-- The valuations of a draft's zone are those that keep the draft's bounds. -/
theorem pts {D : Int} (hD : 1 ≤ D) {n m : Nat} {M : Mat} {c : Row} {V : Nat → Int} (hn : n ≤ 8) (hm : m = (n + 1) * (n + 1)) (hV : Pt V) (hR : RightM n M) (e : zoneR n (drf n m (rowsL n M (n + 1))) = some c) : inV n m c V D = true ↔ kM n M V D := by
  have zc := zc_drf hn hm (right_rows hm hR) e
  have h := points_law n m _ _ V D hn hm (right_rows hm hR) hD hV.z hV.p e
  have k1 : kB n (rowsL n M (n + 1)) V D = true ↔ kM n M V D := by
    rw [kB_iff]
    have g : ∀ i j, i ≤ n → j ≤ n → (rowsL n M (n + 1)).getD (i * (n + 1) + j) 0 = M i j := fun i j hi hj => by
      unfold rowsL
      rw [listOf_get _ _ _ (pos_lt hi hj), flat_at n M i j hj]
    constructor
    · intro h i j hi hj; have := h i j hi hj; rw [g i j hi hj] at this; exact this
    · intro h i j hi hj; rw [g i j hi hj]; exact h i j hi hj
  rw [← k1, h]
  unfold inV
  by_cases c0 : c 0 < 1
  · have e0 : kB n (listOf c m) V D = false := by
      rw [Bool.eq_false_iff]
      intro h
      have h0 := (kB_oR (V := V) hm).1 h 0 0 (by omega) (by omega)
      rw [oR_at hm (by omega) (by omega), Nat.zero_mul, Nat.zero_add] at h0
      rcases zc with rfl | ⟨p, hp⟩
      · have : V 0 - V 0 = 0 := by omega
        rw [this] at h0
        exact no_zero hD h0
      · have := hp.zero hm; omega
    rw [e0]; simp
  · rw [decide_eq_false c0]; simp
theorem lim_kM {D : Int} (hD : 1 ≤ D) {n i0 j0 : Nat} {M : Mat} {V : Nat → Int} {b : Int} (hi0 : i0 ≤ n) (hj0 : j0 ≤ n) (hR : RightM n M) (hb : b = 2147483647 ∨ (-536870912 ≤ b ∧ b ≤ 536870913)) : kM n (limM M i0 j0 b) V D ↔ kM n M V D ∧ holdsB b (V i0 - V j0) D = true := by
  have at0 : ∀ i j, limM M i0 j0 b i j = if i = i0 ∧ j = j0 then min (M i0 j0) b else M i j := fun i j => rfl
  constructor
  · intro h
    have h0 := h i0 j0 hi0 hj0
    rw [at0, if_pos ⟨rfl, rfl⟩, hB_min hD (hR _ _ hi0 hj0) hb] at h0
    refine ⟨fun i j hi hj => ?_, h0.2⟩
    by_cases e : i = i0 ∧ j = j0
    · rw [e.1, e.2]; exact h0.1
    · have := h i j hi hj
      rw [at0, if_neg e] at this; exact this
  · intro h i j hi hj
    rw [at0]
    by_cases e : i = i0 ∧ j = j0
    · rw [if_pos e, e.1, e.2, hB_min hD (hR _ _ hi0 hj0) hb]; exact ⟨h.1 _ _ hi0 hj0, h.2⟩
    · rw [if_neg e]; exact h.1 i j hi hj
def parts (M a b : Int) : Int := a * (M / b)
theorem parts_eq {M a b : Int} (h : b ∣ M) : parts M a b * b = a * M := by
  unfold parts
  rw [Int.mul_assoc, Int.ediv_mul_cancel h]
theorem keepAt_parts {n : Nat} {c : Row} {L : Rats} {M : Int} {P : Nat → Int} (m : 0 < M) {k : Nat} (hc : rightB (c k) = true) (h : ∀ i, i ≤ n → 0 < (aheadL L).d i ∧ P i * (aheadL L).d i = (aheadL L).n i * M) (hk : k < (n + 1) * (n + 1)) :
    keepAt n c L k = holdsB6 (c k) (P (k / (n + 1)) - P (k % (n + 1))) M := by
  unfold keepAt
  have hi : k / (n + 1) ≤ n := by have := (Nat.div_lt_iff_lt_mul (show 0 < n + 1 by omega)).2 hk; omega
  have hj : k % (n + 1) ≤ n := by have := Nat.mod_lt k (show 0 < n + 1 by omega); omega
  obtain ⟨pi, ei⟩ := h _ hi
  obtain ⟨pj, ej⟩ := h _ hj
  generalize k / (n + 1) = i at *
  generalize k % (n + 1) = j at *
  rw [keepB_holds _ _ _ _ _ pi pj hc]
  refine holdsB_scale (Int.mul_pos pi pj) m ?_
  generalize (aheadL L).n i = a at *
  generalize (aheadL L).d i = b at *
  generalize (aheadL L).n j = a' at *
  generalize (aheadL L).d j = b' at *
  generalize P i = x at *
  generalize P j = y at *
  have e1 : a * b' * M = x * (b * b') := by rw [Int.mul_assoc, Int.mul_comm b' M, ← Int.mul_assoc, ← ei, Int.mul_assoc]
  have e2 : a' * b * M = y * (b * b') := by rw [Int.mul_assoc, Int.mul_comm b M, ← Int.mul_assoc, ← ej, Int.mul_assoc, Int.mul_comm b' b]
  rw [Int.sub_mul, Int.sub_mul, e1, e2]
/-- The numbers of a valuation in D parts, that of 0 first. -/
def pV (D : Int) (L : Rats) (i : Nat) : Int := if i = 0 then 0 else if i ≤ L.q then parts D (L.n (i - 1)) (L.d (i - 1)) else 0
theorem okR_pos {a b : Int} (h : okR a b = true) : 0 ≤ a ∧ 0 < b := by
  unfold okR at h
  simp only [Bool.and_eq_true, decide_eq_true_eq] at h
  have := (right_iff.1 h.1).1
  omega
theorem pV_pt {D : Int} {L : Rats} {n : Nat} (hn : n ≤ 8) (hD : 1 ≤ D) (hf : fitB L n = true) : Pt (pV D L) := by
  obtain ⟨hq, hk⟩ := (fitB_iff hn).1 hf
  refine ⟨rfl, fun i => ?_⟩
  unfold pV
  split
  · exact Int.le_refl _
  · split
    · have h := okR_pos (hk (i - 1) (by omega))
      exact Int.mul_nonneg h.1 (Int.ediv_nonneg (by omega) (by omega))
    · exact Int.le_refl _
theorem in_says {n m : Nat} {c : Row} {L : Rats} {D : Int} (hn : n ≤ 8) (hm : m = (n + 1) * (n + 1)) (hc : ∀ k, rightB (c k) = true) (hf : fitB L n = true) (hD : 1 ≤ D) (dv : ∀ k, k < n → L.d k ∣ D) : inB n m c L = inV n m c (pV D L) D := by
  obtain ⟨hq, hk⟩ := (fitB_iff hn).1 hf
  have h : ∀ i, i ≤ n → 0 < (aheadL L).d i ∧ pV D L i * (aheadL L).d i = (aheadL L).n i * D := fun i hi => by
    unfold aheadL pV
    simp only
    by_cases e : i = 0
    · rw [if_pos e, if_pos e, if_pos e]; omega
    · rw [if_neg e, if_neg e, if_neg e, if_pos (by omega)]
      exact ⟨(okR_pos (hk _ (by omega))).2, parts_eq (dv _ (by omega))⟩
  unfold inB inV
  rw [hf, Bool.true_and, Bool.eq_iff_iff, kB_iff]
  unfold allK
  rw [List.all_eq_true]
  constructor
  · intro H i j hi hj
    have hp : i * (n + 1) + j < m := by rw [hm]; exact pos_lt hi hj
    have := H (i * (n + 1) + j) (List.mem_range.2 hp)
    rw [keepAt_parts (by omega) (hc _) h (by rw [← hm]; exact hp), place_div hj, place_mod hj] at this
    rw [listOf_get _ _ _ hp]; exact this
  · intro H k hk'
    have hk' := List.mem_range.1 hk'
    rw [keepAt_parts (by omega) (hc _) h (by rw [← hm]; exact hk')]
    have hi : k / (n + 1) ≤ n := by have := (Nat.div_lt_iff_lt_mul (show 0 < n + 1 by omega)).2 (by rw [← hm]; exact hk'); omega
    have hj : k % (n + 1) ≤ n := by have := Nat.mod_lt k (show 0 < n + 1 by omega); omega
    have := H _ _ hi hj
    rw [show k / (n + 1) * (n + 1) + k % (n + 1) = k by rw [Nat.mul_comm]; exact Nat.div_add_mod k (n + 1), listOf_get _ _ _ hk'] at this
    exact this
end Go.Proofs.YtnfkmpickmonoaaGreat

/-
  fed: what Minus, Meet, Fewer, Plus hold, in points.
-/
namespace Go.Proofs.YtnfkmpickmonoaaGreat
open Go.RowKit Go.Shelf
set_option linter.unusedVariables false
set_option maxRecDepth 100000
/-- Numbers that are a valuation. -/
structure Val7 (V : Nat → Int) (D : Int) : Prop where
  d : 1 ≤ D
  v : Pt V
theorem inV_zero {n m : Nat} {V : Nat → Int} {D : Int} (hm : m = (n + 1) * (n + 1)) (h : Val7 V D) {c : Row} (zc : ZC n m c) (c0 : c 0 < 1) : inV n m c V D = false := by
  rw [Bool.eq_false_iff]
  intro hc
  have h0 := (kB_oR (V := V) hm).1 hc 0 0 (by omega) (by omega)
  rw [oR_at hm (by omega) (by omega), Nat.zero_mul, Nat.zero_add] at h0
  rcases zc with rfl | ⟨p, hp⟩
  · have : V 0 - V 0 = 0 := by omega
    rw [this] at h0
    exact no_zero h.d h0
  · have := hp.zero hm; omega
theorem oR_rightM {n m : Nat} {c : Row} (hm : m = (n + 1) * (n + 1)) (hc : ∀ k, rightB (c k) = true) : RightM n (oR n c m) := fun i j hi hj => by
  rw [oR_at hm hi hj]
  have := hc (i * (n + 1) + j)
  simpa only [rightB, decide_eq_true_eq] using this
theorem con_in {n m i j : Nat} {x o : Row} {v : Int} {V : Nat → Int} {D : Int} (hn : n ≤ 8) (hm : m = (n + 1) * (n + 1)) (h : Val7 V D) (zx : ZC n m x) (hv : rightB v = true) (hi : i ≤ n) (hj : j ≤ n) (ho : conZ n m x (i * (n + 1) + j) v = some o) :
    inV n m o V D = true ↔ inV n m x V D = true ∧ holdsB v (V i - V j) D = true := by
  have hR := oR_rightM hm (zc_right hm zx)
  have hv' : v = 2147483647 ∨ (-536870912 ≤ v ∧ v ≤ 536870913) := by simpa only [rightB, decide_eq_true_eq] using hv
  have e : limK (one1 i j v) 1 (oR n x m) = limM (oR n x m) i j v := by
    show limM (oR n x m) ((i : Int).toNat) ((j : Int).toNat) v = _
    rw [Int.toNat_natCast, Int.toNat_natCast]
  have hRM : RightM n (limM (oR n x m) i j v) := fun a b ha hb => by
    show (if a = i ∧ b = j then min (oR n x m i j) v else oR n x m a b) = 2147483647 ∨ _
    by_cases q : a = i ∧ b = j
    · rw [if_pos q]
      have h2 : limM (oR n x m) i j v a b = min (oR n x m i j) v := by
        show (if a = i ∧ b = j then min (oR n x m i j) v else oR n x m a b) = _
        rw [if_pos q]
      rw [h2]
      have := hR i j hi hj
      omega
    · have h2 : limM (oR n x m) i j v a b = oR n x m a b := by
        show (if a = i ∧ b = j then min (oR n x m i j) v else oR n x m a b) = _
        rw [if_neg q]
      rw [if_neg q, h2]
      exact hR a b ha hb
  have hz : zoneR n (drf n m (rowsL n (limM (oR n x m) i j v) (n + 1))) = some o := by
    rw [← e, low_rows hm hi hj]
    exact ho
  rw [pts h.d hn hm h.v hRM hz, lim_kM h.d hi hj hR hv', ← kB_oR hm]
theorem meet_in {n m : Nat} {c d o : Row} {V : Nat → Int} {D : Int} (hn : n ≤ 8) (hm : m = (n + 1) * (n + 1)) (h : Val7 V D) (zc : ZC n m c) (zd : ZC n m d) (ho : zoneR n (drf n m (listOf (minR c d) m)) = some o) :
    inV n m o V D = true ↔ inV n m c V D = true ∧ inV n m d V D = true := by
  have hC := oR_rightM hm (zc_right hm zc)
  have hE := oR_rightM hm (zc_right hm zd)
  have er : rowsL n (fun i j => min (oR n c m i j) (oR n d m i j)) (n + 1) = listOf (minR c d) m := rows_of hm fun i j hi hj => by
    rw [oR_at hm hi hj, oR_at hm hi hj]
    rfl
  have hRM : RightM n (fun i j => min (oR n c m i j) (oR n d m i j)) := fun i j hi hj => by
    have := hC i j hi hj
    have := hE i j hi hj
    show min (oR n c m i j) (oR n d m i j) = _ ∨ (_ ≤ min (oR n c m i j) (oR n d m i j) ∧ min (oR n c m i j) (oR n d m i j) ≤ _)
    omega
  rw [pts h.d hn hm h.v hRM (by rw [er]; exact ho), kB_oR hm, kB_oR hm]
  constructor
  · intro k
    refine ⟨fun i j hi hj => ?_, fun i j hi hj => ?_⟩
    · exact ((hB_min h.d (hC i j hi hj) (hE i j hi hj)).1 (k i j hi hj)).1
    · exact ((hB_min h.d (hC i j hi hj) (hE i j hi hj)).1 (k i j hi hj)).2
  · intro k i j hi hj
    exact (hB_min h.d (hC i j hi hj) (hE i j hi hj)).2 ⟨k.1 i j hi hj, k.2 i j hi hj⟩
theorem unmet_in {n m : Nat} {c d : Row} {V : Nat → Int} {D : Int} (hn : n ≤ 8) (hm : m = (n + 1) * (n + 1)) (h : Val7 V D) (zc : ZC n m c) (zd : ZC n m d) (hM : metB n m c d = false) : ¬ (inV n m c V D = true ∧ inV n m d V D = true) := fun k => by
  have e : metB n m c d = (closeR n (drf n m (listOf (minR c d) m))).isSome := by
    unfold metB
    rw [tgAll_two n m c d _ hm (fun j => ((zc_made hn hm zc).range j).2) (fun j => ((zc_made hn hm zd).range j).2)]
  rw [e] at hM
  have ho : zoneR n (drf n m (listOf (minR c d) m)) = some (fun _ => 0) := by
    unfold zoneR
    cases hc : closeR n (drf n m (listOf (minR c d) m)) with
    | none => rfl
    | some p => rw [hc] at hM; cases hM
  have := (meet_in hn hm h zc zd ho).2 k
  rw [inV_zero hm h (.inl rfl) (by decide)] at this
  cases this
theorem hB_not {b x D : Int} (hD : 1 ≤ D) (h0 : -536870912 ≤ b) (h1 : b ≤ 536870913) : holdsB (1 - b) (-x) D = true ↔ ¬ holdsB b x D = true := by
  rw [hBD_iff hD (.inr ⟨by omega, by omega⟩), hBD_iff hD (.inr ⟨h0, h1⟩)]
  have e1 : (1 - b - 1) * D = -(b * D) := by rw [show 1 - b - 1 = -b by omega, Int.neg_mul]
  have e2 : (1 - b) * D = D - b * D := by rw [Int.sub_mul, Int.one_mul]
  have e3 : (b - 1) * D = b * D - D := by rw [Int.sub_mul, Int.one_mul]
  rw [e1, e2, e3]
  generalize b * D = y at *
  omega
/-- Does a cell of d hold? -/
def hK (n : Nat) (d : Row) (V : Nat → Int) (D : Int) (k : Nat) : Prop := holdsB (d k) (V (k / (n + 1)) - V (k % (n + 1))) D = true
theorem inV_cells {n m : Nat} {d : Row} {V : Nat → Int} {D : Int} (hm : m = (n + 1) * (n + 1)) : inV n m d V D = true ↔ ∀ k, k < m → hK n d V D k := by
  rw [kB_oR hm]
  constructor
  · intro h k hk
    have jn : k % (n + 1) ≤ n := by have := Nat.mod_lt k (show 0 < n + 1 by omega); omega
    have in_ : k / (n + 1) ≤ n := by
      have := Nat.div_lt_of_lt_mul (by rw [← hm]; exact hk : k < (n + 1) * (n + 1))
      omega
    have := h _ _ in_ jn
    rw [oR_at hm in_ jn, show k / (n + 1) * (n + 1) + k % (n + 1) = k by rw [Nat.mul_comm]; exact Nat.div_add_mod k (n + 1)] at this
    exact this
  · intro h i j hi hj
    rw [oR_at hm hi hj]
    have := h _ (by rw [hm]; exact pos_lt hi hj)
    unfold hK at this
    rw [place_div hj, place_mod hj] at this
    exact this
structure LI (n m : Nat) (c d : Row) (V : Nat → Int) (D : Int) (K : Nat) (ys : List YS) (x : Row) : Prop where
  z : ZC n m x
  iff : inV n m c V D = true ↔ (∃ y ∈ ys, ∃ r, y.1 = some r ∧ inV n m r V D = true) ∨ inV n m x V D = true
  no : ∀ y ∈ ys, ∀ r, y.1 = some r → inV n m r V D = true → ¬ inV n m d V D = true
  up : inV n m x V D = true → ∀ k, k < K → hK n d V D k
theorem LI.step {n m : Nat} {c d x x' : Row} {V : Nat → Int} {D : Int} {K : Nat} {ys : List YS} (hn : n ≤ 8) (hm : m = (n + 1) * (n + 1)) (hv : Val7 V D) (zd : ZC n m d) (hK' : K < m) (h : LI n m c d V D K ys x) (hs : (lStep n m d K ys x).2 = some x') : LI n m c d V D (K + 1) (lStep n m d K ys x).1 x' := by
  have np : 0 < n + 1 := by omega
  have jn : K % (n + 1) ≤ n := by have := Nat.mod_lt K np; omega
  have in_ : K / (n + 1) ≤ n := by
    have := Nat.div_lt_of_lt_mul (by rw [← hm]; exact hK' : K < (n + 1) * (n + 1))
    omega
  have eK : K / (n + 1) * (n + 1) + K % (n + 1) = K := by rw [Nat.mul_comm]; exact Nat.div_add_mod K (n + 1)
  have hcell : ∀ z : Row, inV n m z V D = true → hK n z V D K := fun z hz => (inV_cells hm).1 hz K hK'
  unfold lStep at hs ⊢
  by_cases hk : x K ≤ d K
  · rw [if_pos hk] at hs ⊢
    injection hs with hs
    subst hs
    refine ⟨h.z, h.iff, h.no, fun hx k hk2 => ?_⟩
    by_cases e : k = K
    · subst e
      have a : RB (x k) := by have := zc_right hm h.z k; simpa only [rightB, decide_eq_true_eq] using this
      have b : RB (d k) := by have := zc_right hm zd k; simpa only [rightB, decide_eq_true_eq] using this
      exact hB_le hv.d a b hk (hcell x hx)
    · exact h.up hx k (by omega)
  · rw [if_neg hk] at hs ⊢
    obtain ⟨q0, q1, q2⟩ := right_not (zc_right hm h.z _) (zc_right hm zd _) hk
    cases ho : conZ n m x (K % (n + 1) * (n + 1) + K / (n + 1)) (1 - d K) with
    | none => simp only [ho] at hs; cases hs
    | some o =>
      simp only [ho] at hs ⊢
      cases hx' : conZ n m x K (d K) with
      | none => simp only [hx'] at hs; cases hs
      | some z =>
        simp only [hx'] at hs ⊢
        injection hs with hs
        subst hs
        have io := con_in hn hm hv h.z q2 jn in_ ho
        have hx2 : conZ n m x (K / (n + 1) * (n + 1) + K % (n + 1)) (d K) = some z := by rw [eK]; exact hx'
        have iz := con_in hn hm hv h.z (zc_right hm zd _) in_ jn hx2
        have neg : holdsB (1 - d K) (V (K % (n + 1)) - V (K / (n + 1))) D = true ↔ ¬ hK n d V D K := by
          have := hB_not (x := V (K / (n + 1)) - V (K % (n + 1))) hv.d q0 q1
          rw [show -(V (K / (n + 1)) - V (K % (n + 1))) = V (K % (n + 1)) - V (K / (n + 1)) by omega] at this
          exact this
        rw [neg] at io
        refine ⟨conZ_zc hn hm h.z (zc_right hm zd _) hx', ?_, fun y hy r hr hin => ?_, fun hz k hk2 => ?_⟩
        · rw [h.iff]
          constructor
          · rintro (⟨y, hy, r, hr, hin⟩ | hx)
            · exact .inl ⟨y, List.mem_append.2 (.inl hy), r, hr, hin⟩
            · by_cases q : hK n d V D K
              · exact .inr (iz.2 ⟨hx, q⟩)
              · exact .inl ⟨(some o, 0), List.mem_append.2 (.inr (List.mem_singleton.2 rfl)), o, rfl, io.2 ⟨hx, q⟩⟩
          · rintro (⟨y, hy, r, hr, hin⟩ | hx)
            · rcases List.mem_append.1 hy with q | q
              · exact .inl ⟨y, q, r, hr, hin⟩
              · rw [List.mem_singleton.1 q] at hr
                injection hr with hr
                subst hr
                exact .inr (io.1 hin).1
            · exact .inr (iz.1 hx).1
        · rcases List.mem_append.1 hy with q | q
          · exact h.no y q r hr hin
          · rw [List.mem_singleton.1 q] at hr
            injection hr with hr
            subst hr
            intro hd
            exact (io.1 hin).2 (hcell d hd)
        · by_cases e : k = K
          · subst e
            exact (iz.1 hz).2
          · exact h.up (iz.1 hz).1 k (by omega)
theorem LI.all {n m : Nat} {c d : Row} {V : Nat → Int} {D : Int} (hn : n ≤ 8) (hm : m = (n + 1) * (n + 1)) (hv : Val7 V D) (zc : ZC n m c) (zd : ZC n m d) : ∀ K, K ≤ m → ∀ x, (leftL n m c d (List.range K)).2 = some x → LI n m c d V D K (leftL n m c d (List.range K)).1 x
  | 0, _, x, h => by
    injection h with h
    subst h
    exact ⟨zc, ⟨fun h => .inr h, fun h => by rcases h with ⟨y, hy, -⟩ | h; cases hy; exact h⟩, fun y hy => (by cases hy), fun _ k hk => (by omega)⟩
  | K + 1, hK, x, h => by
    rw [List.range_succ, leftL_snoc] at h ⊢
    have ih := LI.all (V := V) (D := D) hn hm hv zc zd K (by omega)
    generalize leftL n m c d (List.range K) = s at *
    obtain ⟨ys, xo⟩ := s
    cases xo with
    | none => cases h
    | some z => exact (ih z rfl).step hn hm hv zd (by omega) h
end Go.Proofs.YtnfkmpickmonoaaGreat
