/-
  Which valuations, in D parts, are in what the calls of ops tell: by the bounds of their drafts.
-/
import Derived.Test.YteifpplemohdcaaGreatQ29
import Derived.Test.YteifpplemohdcaaGreatQ27
import Derived.Test.YteifpplemohdcaaGreatQ26
import Derived.Test.YteifpplemohdcaaGreatQ30
namespace Go.Proofs.YteifpplemohdcaaGreat
open Go.RowKit
set_option linter.unusedVariables false
set_option maxRecDepth 100000
/-- A valuation: 0 ahead, none below 0. -/
structure Pt (V : Nat → Int) : Prop where
  z : V 0 = 0
  p : ∀ i, 0 ≤ V i
def inV (n m : Nat) (c : Row) (V : Nat → Int) (D : Int) : Bool := kB n (listOf c m) V D
def kM (n : Nat) (M : Mat) (V : Nat → Int) (D : Int) : Prop := ∀ i j, i ≤ n → j ≤ n → holdsB (M i j) (V i - V j) D = true
abbrev RB (b : Int) : Prop := b = 2147483647 ∨ (-536870912 ≤ b ∧ b ≤ 536870913)
theorem mulLe {a b D : Int} (hD : 1 ≤ D) (h : a ≤ b) : a * D ≤ b * D := Int.mul_le_mul_of_nonneg_right h (by omega)
theorem hBD_iff {b d D : Int} (hD : 1 ≤ D) (hb : RB b) : holdsB b d D = true ↔ b = 2147483647 ∨ (b % 2 = 1 ∧ 2 * d ≤ (b - 1) * D) ∨ (b % 2 = 0 ∧ 2 * d < b * D) := by
  by_cases e : b = 2147483647
  · subst e
    constructor
    · intro _; exact .inl rfl
    · intro _; unfold holdsB; simp
  · have hf : finB b = true := decide_eq_true (by unfold RB at hb; omega)
    unfold holdsB
    rw [decide_eq_false e, hf, decide_eq_true hD]
    by_cases o : b % 2 = 1
    · have e2 : (b - 1) * D = 2 * (valV b * D) := by
        rw [← Int.mul_assoc]; congr 1; unfold valV; rw [if_pos hf]; omega
      unfold valR
      rw [hf, decide_eq_true o, e2]
      simp
      omega
    · have e2 : b * D = 2 * (valV b * D) := by
        rw [← Int.mul_assoc]; congr 1; unfold valV; rw [if_pos hf]; omega
      unfold valR
      rw [hf, decide_eq_false o, e2]
      simp
      omega
theorem le_bound {a b x D : Int} (hD : 1 ≤ D) (h : a ≤ b) (k : (a % 2 = 1 ∧ x ≤ (a - 1) * D) ∨ (a % 2 = 0 ∧ x < a * D)) : (b % 2 = 1 ∧ x ≤ (b - 1) * D) ∨ (b % 2 = 0 ∧ x < b * D) := by
  rcases k with ⟨o, k⟩ | ⟨o, k⟩
  · by_cases p : b % 2 = 1
    · exact .inl ⟨p, Int.le_trans k (mulLe hD (by omega))⟩
    · have h1 := mulLe hD (show a - 1 ≤ b - 2 by omega)
      rw [Int.sub_mul b 2 D] at h1
      exact .inr ⟨by omega, by omega⟩
  · by_cases p : b % 2 = 1
    · have h1 := mulLe hD (show a ≤ b - 1 by omega)
      exact .inl ⟨p, by omega⟩
    · have h1 := mulLe hD h
      exact .inr ⟨by omega, by omega⟩
theorem hB_le {a b d D : Int} (hD : 1 ≤ D) (ha : RB a) (hb : RB b) (h : a ≤ b) (k : holdsB a d D = true) : holdsB b d D = true := by
  rw [hBD_iff hD ha] at k
  rw [hBD_iff hD hb]
  rcases k with k | k
  · left; unfold RB at hb; omega
  · exact .inr (le_bound hD h k)
theorem hB_min {a b d D : Int} (hD : 1 ≤ D) (ha : RB a) (hb : RB b) : holdsB (min a b) d D = true ↔ holdsB a d D = true ∧ holdsB b d D = true := by
  by_cases h : a ≤ b
  · rw [show min a b = a by omega]
    exact ⟨fun k => ⟨k, hB_le hD ha hb h k⟩, fun k => k.1⟩
  · rw [show min a b = b by omega]
    exact ⟨fun k => ⟨hB_le hD hb ha (by omega) k, k⟩, fun k => k.2⟩
theorem hB_mono {b d d' D : Int} (hD : 1 ≤ D) (hb : RB b) (h : holdsB b d D = true) (hd : d' ≤ d) : holdsB b d' D = true := by
  rw [hBD_iff hD hb] at h ⊢
  generalize (b - 1) * D = y at *
  generalize b * D = z at *
  omega
theorem no_zero {D : Int} (hD : 1 ≤ D) (h : holdsB 0 0 D = true) : False := by
  rw [hBD_iff hD (.inr ⟨by omega, by omega⟩), Int.zero_mul] at h
  omega
theorem two_k {k D : Int} : (2 * k + 1 - 1) * D = 2 * (D * k) := by
  rw [show 2 * k + 1 - 1 = 2 * k by omega, Int.mul_assoc, Int.mul_comm k D]
theorem neg_k {k D : Int} : (-(2 * k) + 1 - 1) * D = -(2 * (D * k)) := by
  rw [show -(2 * k) + 1 - 1 = -(2 * k) by omega, Int.neg_mul, Int.mul_assoc, Int.mul_comm k D]
theorem kM_congr {D : Int} {n : Nat} {M : Mat} {V V' : Nat → Int} (h : ∀ i, i ≤ n → V' i = V i) : kM n M V' D ↔ kM n M V D := by
  constructor
  · intro k i j hi hj; have := k i j hi hj; rw [h i hi, h j hj] at this; exact this
  · intro k i j hi hj; rw [h i hi, h j hj]; exact k i j hi hj
theorem kB_oR {D : Int} {n m : Nat} {c : Row} {V : Nat → Int} (hm : m = (n + 1) * (n + 1)) : inV n m c V D = true ↔ kM n (oR n c m) V D := by
  unfold inV
  rw [kB_iff]
  constructor
  · intro h i j hi hj
    have := h i j hi hj
    rw [listOf_get _ _ _ (by rw [hm]; exact pos_lt hi hj)] at this
    rw [oR_at hm hi hj]; exact this
  · intro h i j hi hj
    have := h i j hi hj
    rw [oR_at hm hi hj] at this
    rw [listOf_get _ _ _ (by rw [hm]; exact pos_lt hi hj)]; exact this
theorem inV_congr {D : Int} {n m : Nat} {c : Row} {V V' : Nat → Int} (hm : m = (n + 1) * (n + 1)) (h : ∀ i, i ≤ n → V' i = V i) : inV n m c V' D = inV n m c V D := by
  rw [Bool.eq_iff_iff, kB_oR hm, kB_oR hm]
  exact kM_congr h
/-- The valuations of a draft's zone are those that keep the draft's bounds. -/
theorem pts {D : Int} (hD : 1 ≤ D) {n m : Nat} {M : Mat} {c : Row} {V : Nat → Int} (hn : n ≤ 8) (hm : m = (n + 1) * (n + 1)) (hV : Pt V) (hR : RightM n M) (e : zoneR n (drf n m (rowsL n M (n + 1))) = some c) : inV n m c V D = true ↔ kM n M V D := by
  have zc := zc_drf hn hm (right_rows hm hR) e
  have h := points_law n m _ _ V D hn hm (right_rows hm hR) hD hV.z hV.p e
  have k1 : kB n (rowsL n M (n + 1)) V D = true ↔ kM n M V D := by
    rw [kB_iff]
    have g : ∀ i j, i ≤ n → j ≤ n → (rowsL n M (n + 1)).getD (i * (n + 1) + j) 0 = M i j := fun i j hi hj => by
      unfold rowsL
      rw [listOf_get _ _ _ (pos_lt hi hj), flat_at n M i j hj]
    constructor
    · intro h i j hi hj; have := h i j hi hj; rw [g i j hi hj] at this; exact this
    · intro h i j hi hj; rw [g i j hi hj]; exact h i j hi hj
  rw [← k1, h]
  unfold inV
  by_cases c0 : c 0 < 1
  · have e0 : kB n (listOf c m) V D = false := by
      rw [Bool.eq_false_iff]
      intro h
      have h0 := (kB_oR (V := V) hm).1 h 0 0 (by omega) (by omega)
      rw [oR_at hm (by omega) (by omega), Nat.zero_mul, Nat.zero_add] at h0
      rcases zc with rfl | ⟨p, hp⟩
      · have : V 0 - V 0 = 0 := by omega
        rw [this] at h0
        exact no_zero hD h0
      · have := hp.zero hm; omega
    rw [e0]; simp
  · rw [decide_eq_false c0]; simp
theorem oR_right {n m : Nat} {c : Row} (hm : m = (n + 1) * (n + 1)) (zc : ZC n m c) : RightM n (oR n c m) := zc_rightM hm zc
/-- A valuation so much later; one with a clock set. -/
def VD (V : Nat → Int) (d : Int) (i : Nat) : Int := if i = 0 then 0 else V i + d
def SV (V : Nat → Int) (x : Nat) (k D : Int) (i : Nat) : Int := if i = x then D * k else V i
theorem Pt.later {V : Nat → Int} (h : Pt V) {d : Int} (hd : 0 ≤ d) : Pt (VD V d) := ⟨by unfold VD; rw [if_pos rfl], fun i => by unfold VD; split; omega; have := h.p i; omega⟩
theorem Pt.set {D : Int} (hD : 1 ≤ D) {V : Nat → Int} (h : Pt V) {x : Nat} {k : Int} (x1 : 1 ≤ x) (hk : 0 ≤ k) : Pt (SV V x k D) := ⟨by unfold SV; rw [if_neg (by omega)]; exact h.z, fun i => by unfold SV; split; exact Int.mul_nonneg (by omega) hk; exact h.p i⟩
theorem h_zero {D : Int} (hD : 1 ≤ D) {V : Nat → Int} (hV : Pt V) (j : Nat) : holdsB 1 (V 0 - V j) D = true := by
  rw [hBD_iff hD (by omega)]; have := hV.z; have := hV.p j; omega
theorem up_kM {D : Int} (hD : 1 ≤ D) {n : Nat} {M : Mat} {V : Nat → Int} {d : Int} (hV : Pt V) (hd : 0 ≤ d) (hR : RightM n M) (h : kM n M V D) : kM n (upM (n + 1) M) (VD V d) D := fun i j hi hj => by
  unfold upM
  split
  · rw [hBD_iff hD (by omega)]; exact .inl rfl
  · have := h i j hi hj
    refine hB_mono hD (hR i j hi hj) this ?_
    unfold VD
    have := hV.z
    split <;> split <;> (try subst_vars) <;> omega
theorem down_kM {D : Int} (hD : 1 ≤ D) {n : Nat} {M : Mat} {V : Nat → Int} {d : Int} (hV : Pt V) (hd : 0 ≤ d) (hR : RightM n M) (h : kM n M (VD V d) D) : kM n (downM (n + 1) M) V D := fun i j hi hj => by
  unfold downM
  split
  · rename_i e; rw [e.1]; exact h_zero hD hV j
  · rename_i e
    have := h i j hi hj
    refine hB_mono hD (hR i j hi hj) this ?_
    unfold VD
    have := hV.z
    split <;> split <;> (try subst_vars) <;> omega
theorem free_at {n x i j : Nat} {M : Mat} (x1 : 1 ≤ x) (hi : i ≤ n) (hj : j ≤ n) : freeK x (n + 1) M i j = if i = x then 2147483647 else if j = x then M i 0 else M i j := by
  rw [freeK_at x1]
  split
  · rw [if_pos (by omega)]
  · split
    · rw [if_pos (by omega)]
    · rfl
theorem free_kM {D : Int} (hD : 1 ≤ D) {n x : Nat} {M : Mat} {V : Nat → Int} (hV : Pt V) (x1 : 1 ≤ x) (hR : RightM n M) (h : ∀ i j, i ≤ n → j ≤ n → ¬ i = x → ¬ j = x → holdsB (M i j) (V i - V j) D = true) : kM n (freeK x (n + 1) M) V D := fun i j hi hj => by
  rw [free_at x1 hi hj]
  split
  · rw [hBD_iff hD (by omega)]; exact .inl rfl
  · rename_i a
    split
    · have := h i 0 hi (by omega) a (by omega)
      refine hB_mono hD (hR i 0 hi (by omega)) this ?_
      have := hV.z; have := hV.p j; omega
    · rename_i b
      exact h i j hi hj a b
theorem free_of {D : Int} {n x : Nat} {M : Mat} {V : Nat → Int} (x1 : 1 ≤ x) (h : kM n (freeK x (n + 1) M) V D) : ∀ i j, i ≤ n → j ≤ n → ¬ i = x → ¬ j = x → holdsB (M i j) (V i - V j) D = true := fun i j hi hj a b => by
  have := h i j hi hj
  rw [free_at x1 hi hj, if_neg a, if_neg b] at this
  exact this
theorem SV_o {V : Nat → Int} {x i : Nat} {k D : Int} (h : ¬ i = x) : SV V x k D i = V i := by unfold SV; rw [if_neg h]
theorem SV_x {D : Int} {V : Nat → Int} {x : Nat} {k : Int} : SV V x k D x = D * k := by unfold SV; rw [if_pos rfl]
/-- Of a free clock nothing is said. -/
theorem free_set {D : Int} (hD : 1 ≤ D) {n x : Nat} {M : Mat} {V : Nat → Int} {k : Int} (hV : Pt V) (x1 : 1 ≤ x) (hk : 0 ≤ k) (hR : RightM n M) : kM n (freeK x (n + 1) M) (SV V x k D) D ↔ kM n (freeK x (n + 1) M) V D := by
  constructor
  · intro h
    refine free_kM hD hV x1 hR fun i j hi hj a b => ?_
    have := free_of x1 h i j hi hj a b
    rw [SV_o a, SV_o b] at this; exact this
  · intro h
    refine free_kM hD (Pt.set hD hV x1 hk) x1 hR fun i j hi hj a b => ?_
    rw [SV_o a, SV_o b]; exact free_of x1 h i j hi hj a b
theorem lim_kM {D : Int} (hD : 1 ≤ D) {n i0 j0 : Nat} {M : Mat} {V : Nat → Int} {b : Int} (hi0 : i0 ≤ n) (hj0 : j0 ≤ n) (hR : RightM n M) (hb : b = 2147483647 ∨ (-536870912 ≤ b ∧ b ≤ 536870913)) : kM n (limM M i0 j0 b) V D ↔ kM n M V D ∧ holdsB b (V i0 - V j0) D = true := by
  have at0 : ∀ i j, limM M i0 j0 b i j = if i = i0 ∧ j = j0 then min (M i0 j0) b else M i j := fun i j => rfl
  constructor
  · intro h
    have h0 := h i0 j0 hi0 hj0
    rw [at0, if_pos ⟨rfl, rfl⟩, hB_min hD (hR _ _ hi0 hj0) hb] at h0
    refine ⟨fun i j hi hj => ?_, h0.2⟩
    by_cases e : i = i0 ∧ j = j0
    · rw [e.1, e.2]; exact h0.1
    · have := h i j hi hj
      rw [at0, if_neg e] at this; exact this
  · intro h i j hi hj
    rw [at0]
    by_cases e : i = i0 ∧ j = j0
    · rw [if_pos e, e.1, e.2, hB_min hD (hR _ _ hi0 hj0) hb]; exact ⟨h.1 _ _ hi0 hj0, h.2⟩
    · rw [if_neg e]; exact h.1 i j hi hj
theorem k_bd {k : Int} (k0 : 0 ≤ k) (k1 : k ≤ 1048576) : ((2 * k + 1 = 2147483647) ∨ (-536870912 ≤ 2 * k + 1 ∧ 2 * k + 1 ≤ 536870913)) ∧ ((-(2 * k) + 1 = 2147483647) ∨ (-536870912 ≤ -(2 * k) + 1 ∧ -(2 * k) + 1 ≤ 536870913)) := by omega
/-- A clock has a number just if it keeps both bounds. -/
theorem two_lims {D : Int} (hD : 1 ≤ D) {V : Nat → Int} {x : Nat} {k : Int} (hV : Pt V) (k0 : 0 ≤ k) (k1 : k ≤ 1048576) : (holdsB (2 * k + 1) (V x - V 0) D = true ∧ holdsB (-(2 * k) + 1) (V 0 - V x) D = true) ↔ V x = D * k := by
  rw [hBD_iff hD (k_bd k0 k1).1, hBD_iff hD (k_bd k0 k1).2, two_k, neg_k]
  generalize (2 * k + 1) * D = y
  generalize (-(2 * k) + 1) * D = z
  generalize D * k = u
  have := hV.z
  omega
theorem fr_right {n m x : Nat} {c : Row} (hn : n ≤ 8) (hm : m = (n + 1) * (n + 1)) (h : ZC n m c) (x1 : 1 ≤ x) (hx : x ≤ n) : RightM n (freeK x (n + 1) (oR n c m)) := by
  obtain ⟨_, _, _, hR, _⟩ := free_row hn hm h x1 hx
  exact hR
theorem rs_kM {D : Int} (hD : 1 ≤ D) {n m x : Nat} {k : Int} {c : Row} {V : Nat → Int} (hn : n ≤ 8) (hm : m = (n + 1) * (n + 1)) (zc : ZC n m c) (hV : Pt V) (x1 : 1 ≤ x) (hx : x ≤ n) (k0 : 0 ≤ k) (k1 : k ≤ 1048576) : kM n (rsM n m x k c) V D ↔ kM n (freeK x (n + 1) (oR n c m)) V D ∧ V x = D * k := by
  have R1 := fr_right hn hm zc x1 hx
  have R2 : RightM n (limM (freeK x (n + 1) (oR n c m)) x 0 (2 * k + 1)) := R1.lim hx (by omega) (by omega) (by omega)
  unfold rsM
  rw [lim_kM hD (by omega) hx R2 (k_bd k0 k1).2, lim_kM hD hx (by omega) R1 (k_bd k0 k1).1, and_assoc, two_lims hD hV k0 k1]
theorem ex_kM {D : Int} (hD : 1 ≤ D) {n m x : Nat} {k : Int} {c : Row} {V : Nat → Int} (hm : m = (n + 1) * (n + 1)) (zc : ZC n m c) (hV : Pt V) (x1 : 1 ≤ x) (hx : x ≤ n) (k0 : 0 ≤ k) (k1 : k ≤ 1048576) : kM n (exM n m x k c) V D ↔ kM n (oR n c m) V D ∧ V x = D * k := by
  have R1 := oR_right hm zc
  have R2 : RightM n (limM (oR n c m) x 0 (2 * k + 1)) := R1.lim hx (by omega) (by omega) (by omega)
  unfold exM
  rw [lim_kM hD (by omega) hx R2 (k_bd k0 k1).2, lim_kM hD hx (by omega) R1 (k_bd k0 k1).1, and_assoc, two_lims hD hV k0 k1]
theorem keep_in {D : Int} (hD : 1 ≤ D) {n m : Nat} {p : Mat} {c : Row} {V : Nat → Int} (hm : m = (n + 1) * (n + 1)) (h : FullC n m p c) : inV n m c V D = true ↔ keepsM n V D p := by
  unfold inV
  rw [h.cells]
  exact closed_keeps n m p V D hm hD h.nar
theorem W_mono {a b x D : Int} (hD : 1 ≤ D) (h : holdsW a x D) (hab : a ≤ b) (hb : F b) : holdsW b x D := by
  have o := F_opn hb
  unfold holdsW at *
  rcases h with h | h
  · exact .inl (by omega)
  · exact .inr (le_bound hD hab h)
end Go.Proofs.YteifpplemohdcaaGreat
