/-
  Which valuations, in twelfths, are in what the calls of ops tell: by the bounds of their drafts.
-/
import Derived.Test.YtfffcmelkdmjaaaDoorZo
import Derived.Test.YtfffcmelkdmjaaaDoorZk
import Derived.Test.YtfffcmelkdmjaaaDoorZg
import Derived.Test.YtfffcmelkdmjaaaDoorSg3z
namespace Go.Proofs.YtfffcmelkdmjaaaDoor
open Go.RowKit
set_option linter.unusedVariables false
set_option maxRecDepth 100000
/-- A valuation: 0 ahead, none below 0. -/
structure Pt (V : Nat → Int) : Prop where
  z : V 0 = 0
  p : ∀ i, 0 ≤ V i
def inV (n m : Nat) (c : Row) (V : Nat → Int) : Bool := kB n (listOf c m) V 12
def kM (n : Nat) (M : Mat) (V : Nat → Int) : Prop := ∀ i j, i ≤ n → j ≤ n → holdsB (M i j) (V i - V j) 12 = true
theorem hB12_iff {b d : Int} (hb : b = 2147483647 ∨ (-536870912 ≤ b ∧ b ≤ 536870913)) : holdsB b d 12 = true ↔ b = 2147483647 ∨ (b % 2 = 1 ∧ 2 * d ≤ (b - 1) * 12) ∨ (b % 2 = 0 ∧ 2 * d < b * 12) := by
  by_cases e : b = 2147483647
  · subst e
    constructor
    · intro _; exact .inl rfl
    · intro _; unfold holdsB; simp
  · have hf : finB b = true := decide_eq_true (by omega)
    unfold holdsB valR valV
    rw [decide_eq_false e, hf, if_pos rfl]
    by_cases o : b % 2 = 1
    · rw [decide_eq_true o]
      simp
      omega
    · rw [decide_eq_false o]
      simp
      omega
theorem hB_min {a b d : Int} (ha : a = 2147483647 ∨ (-536870912 ≤ a ∧ a ≤ 536870913)) (hb : b = 2147483647 ∨ (-536870912 ≤ b ∧ b ≤ 536870913)) : holdsB (min a b) d 12 = true ↔ holdsB a d 12 = true ∧ holdsB b d 12 = true := by
  have hm : min a b = 2147483647 ∨ (-536870912 ≤ min a b ∧ min a b ≤ 536870913) := by omega
  rw [hB12_iff ha, hB12_iff hb, hB12_iff hm]
  omega
theorem hB_mono {b d d' : Int} (hb : b = 2147483647 ∨ (-536870912 ≤ b ∧ b ≤ 536870913)) (h : holdsB b d 12 = true) (hd : d' ≤ d) : holdsB b d' 12 = true := by
  rw [hB12_iff hb] at h ⊢
  omega
theorem kM_congr {n : Nat} {M : Mat} {V V' : Nat → Int} (h : ∀ i, i ≤ n → V' i = V i) : kM n M V' ↔ kM n M V := by
  constructor
  · intro k i j hi hj; have := k i j hi hj; rw [h i hi, h j hj] at this; exact this
  · intro k i j hi hj; rw [h i hi, h j hj]; exact k i j hi hj
theorem kB_oR {n m : Nat} {c : Row} {V : Nat → Int} (hm : m = (n + 1) * (n + 1)) : inV n m c V = true ↔ kM n (oR n c m) V := by
  unfold inV
  rw [kB_iff]
  constructor
  · intro h i j hi hj
    have := h i j hi hj
    rw [listOf_get _ _ _ (by rw [hm]; exact pos_lt hi hj)] at this
    rw [oR_at hm hi hj]; exact this
  · intro h i j hi hj
    have := h i j hi hj
    rw [oR_at hm hi hj] at this
    rw [listOf_get _ _ _ (by rw [hm]; exact pos_lt hi hj)]; exact this
theorem inV_congr {n m : Nat} {c : Row} {V V' : Nat → Int} (hm : m = (n + 1) * (n + 1)) (h : ∀ i, i ≤ n → V' i = V i) : inV n m c V' = inV n m c V := by
  rw [Bool.eq_iff_iff, kB_oR hm, kB_oR hm]
  exact kM_congr h
/-- The valuations of a draft's zone are those that keep the draft's bounds. -/
theorem pts {n m : Nat} {M : Mat} {c : Row} {V : Nat → Int} (hn : n ≤ 8) (hm : m = (n + 1) * (n + 1)) (hV : Pt V) (hR : RightM n M) (e : zoneR n (drf n m (rowsL n M (n + 1))) = some c) : inV n m c V = true ↔ kM n M V := by
  have zc := zc_drf hn hm (right_rows hm hR) e
  have h := points_law n m _ _ V 12 hn hm (right_rows hm hR) (by omega) hV.z hV.p e
  have k1 : kB n (rowsL n M (n + 1)) V 12 = true ↔ kM n M V := by
    rw [kB_iff]
    have g : ∀ i j, i ≤ n → j ≤ n → (rowsL n M (n + 1)).getD (i * (n + 1) + j) 0 = M i j := fun i j hi hj => by
      unfold rowsL
      rw [listOf_get _ _ _ (pos_lt hi hj), flat_at n M i j hj]
    constructor
    · intro h i j hi hj; have := h i j hi hj; rw [g i j hi hj] at this; exact this
    · intro h i j hi hj; rw [g i j hi hj]; exact h i j hi hj
  rw [← k1, h]
  unfold inV
  by_cases c0 : c 0 < 1
  · have e0 : kB n (listOf c m) V 12 = false := by
      rw [Bool.eq_false_iff]
      intro h
      have h0 := (kB_oR (V := V) hm).1 h 0 0 (by omega) (by omega)
      rw [oR_at hm (by omega) (by omega), Nat.zero_mul, Nat.zero_add] at h0
      rcases zc with rfl | ⟨p, hp⟩
      · have : V 0 - V 0 = 0 := by omega
        rw [this] at h0
        exact absurd h0 (by decide)
      · have := hp.zero hm; omega
    rw [e0]; simp
  · rw [decide_eq_false c0]; simp
theorem oR_right {n m : Nat} {c : Row} (hm : m = (n + 1) * (n + 1)) (zc : ZC n m c) : RightM n (oR n c m) := zc_rightM hm zc
/-- A valuation so much later; one with a clock set. -/
def VD (V : Nat → Int) (d : Int) (i : Nat) : Int := if i = 0 then 0 else V i + d
def SV (V : Nat → Int) (x : Nat) (k : Int) (i : Nat) : Int := if i = x then 12 * k else V i
theorem Pt.later {V : Nat → Int} (h : Pt V) {d : Int} (hd : 0 ≤ d) : Pt (VD V d) := ⟨by unfold VD; rw [if_pos rfl], fun i => by unfold VD; split; omega; have := h.p i; omega⟩
theorem Pt.set {V : Nat → Int} (h : Pt V) {x : Nat} {k : Int} (x1 : 1 ≤ x) (hk : 0 ≤ k) : Pt (SV V x k) := ⟨by unfold SV; rw [if_neg (by omega)]; exact h.z, fun i => by unfold SV; split; omega; exact h.p i⟩
theorem h_zero {V : Nat → Int} (hV : Pt V) (j : Nat) : holdsB 1 (V 0 - V j) 12 = true := by
  rw [hB12_iff (by omega)]; have := hV.z; have := hV.p j; omega
theorem up_kM {n : Nat} {M : Mat} {V : Nat → Int} {d : Int} (hV : Pt V) (hd : 0 ≤ d) (hR : RightM n M) (h : kM n M V) : kM n (upM (n + 1) M) (VD V d) := fun i j hi hj => by
  unfold upM
  split
  · rw [hB12_iff (by omega)]; exact .inl rfl
  · have := h i j hi hj
    refine hB_mono (hR i j hi hj) this ?_
    unfold VD
    have := hV.z
    split <;> split <;> (try subst_vars) <;> omega
theorem down_kM {n : Nat} {M : Mat} {V : Nat → Int} {d : Int} (hV : Pt V) (hd : 0 ≤ d) (hR : RightM n M) (h : kM n M (VD V d)) : kM n (downM (n + 1) M) V := fun i j hi hj => by
  unfold downM
  split
  · rename_i e; rw [e.1]; exact h_zero hV j
  · rename_i e
    have := h i j hi hj
    refine hB_mono (hR i j hi hj) this ?_
    unfold VD
    have := hV.z
    split <;> split <;> (try subst_vars) <;> omega
theorem VD_zero {V : Nat → Int} (hV : Pt V) (i : Nat) : VD V 0 i = V i := by
  unfold VD; split
  · rename_i h; rw [h]; exact hV.z.symm
  · omega
theorem free_at {n x i j : Nat} {M : Mat} (x1 : 1 ≤ x) (hi : i ≤ n) (hj : j ≤ n) : freeK x (n + 1) M i j = if i = x then 2147483647 else if j = x then M i 0 else M i j := by
  rw [freeK_at x1]
  split
  · rw [if_pos (by omega)]
  · split
    · rw [if_pos (by omega)]
    · rfl
theorem free_kM {n x : Nat} {M : Mat} {V : Nat → Int} (hV : Pt V) (x1 : 1 ≤ x) (hR : RightM n M) (h : ∀ i j, i ≤ n → j ≤ n → ¬ i = x → ¬ j = x → holdsB (M i j) (V i - V j) 12 = true) : kM n (freeK x (n + 1) M) V := fun i j hi hj => by
  rw [free_at x1 hi hj]
  split
  · rw [hB12_iff (by omega)]; exact .inl rfl
  · rename_i a
    split
    · have := h i 0 hi (by omega) a (by omega)
      refine hB_mono (hR i 0 hi (by omega)) this ?_
      have := hV.z; have := hV.p j; omega
    · rename_i b
      exact h i j hi hj a b
theorem free_of {n x : Nat} {M : Mat} {V : Nat → Int} (x1 : 1 ≤ x) (h : kM n (freeK x (n + 1) M) V) : ∀ i j, i ≤ n → j ≤ n → ¬ i = x → ¬ j = x → holdsB (M i j) (V i - V j) 12 = true := fun i j hi hj a b => by
  have := h i j hi hj
  rw [free_at x1 hi hj, if_neg a, if_neg b] at this
  exact this
theorem SV_o {V : Nat → Int} {x i : Nat} {k : Int} (h : ¬ i = x) : SV V x k i = V i := by unfold SV; rw [if_neg h]
theorem SV_x {V : Nat → Int} {x : Nat} {k : Int} : SV V x k x = 12 * k := by unfold SV; rw [if_pos rfl]
/-- Of a free clock nothing is said. -/
theorem free_set {n x : Nat} {M : Mat} {V : Nat → Int} {k : Int} (hV : Pt V) (x1 : 1 ≤ x) (hk : 0 ≤ k) (hR : RightM n M) : kM n (freeK x (n + 1) M) (SV V x k) ↔ kM n (freeK x (n + 1) M) V := by
  constructor
  · intro h
    refine free_kM hV x1 hR fun i j hi hj a b => ?_
    have := free_of x1 h i j hi hj a b
    rw [SV_o a, SV_o b] at this; exact this
  · intro h
    refine free_kM (hV.set x1 hk) x1 hR fun i j hi hj a b => ?_
    rw [SV_o a, SV_o b]; exact free_of x1 h i j hi hj a b
theorem lim_kM {n i0 j0 : Nat} {M : Mat} {V : Nat → Int} {b : Int} (hi0 : i0 ≤ n) (hj0 : j0 ≤ n) (hR : RightM n M) (hb : b = 2147483647 ∨ (-536870912 ≤ b ∧ b ≤ 536870913)) : kM n (limM M i0 j0 b) V ↔ kM n M V ∧ holdsB b (V i0 - V j0) 12 = true := by
  have at0 : ∀ i j, limM M i0 j0 b i j = if i = i0 ∧ j = j0 then min (M i0 j0) b else M i j := fun i j => rfl
  constructor
  · intro h
    have h0 := h i0 j0 hi0 hj0
    rw [at0, if_pos ⟨rfl, rfl⟩, hB_min (hR _ _ hi0 hj0) hb] at h0
    refine ⟨fun i j hi hj => ?_, h0.2⟩
    by_cases e : i = i0 ∧ j = j0
    · rw [e.1, e.2]; exact h0.1
    · have := h i j hi hj
      rw [at0, if_neg e] at this; exact this
  · intro h i j hi hj
    rw [at0]
    by_cases e : i = i0 ∧ j = j0
    · rw [if_pos e, e.1, e.2, hB_min (hR _ _ hi0 hj0) hb]; exact ⟨h.1 _ _ hi0 hj0, h.2⟩
    · rw [if_neg e]; exact h.1 i j hi hj
theorem k_bd {k : Int} (k0 : 0 ≤ k) (k1 : k ≤ 1048576) : ((2 * k + 1 = 2147483647) ∨ (-536870912 ≤ 2 * k + 1 ∧ 2 * k + 1 ≤ 536870913)) ∧ ((-(2 * k) + 1 = 2147483647) ∨ (-536870912 ≤ -(2 * k) + 1 ∧ -(2 * k) + 1 ≤ 536870913)) := by omega
/-- A clock has a number just if it keeps both bounds. -/
theorem two_lims {V : Nat → Int} {x : Nat} {k : Int} (hV : Pt V) (k0 : 0 ≤ k) (k1 : k ≤ 1048576) : (holdsB (2 * k + 1) (V x - V 0) 12 = true ∧ holdsB (-(2 * k) + 1) (V 0 - V x) 12 = true) ↔ V x = 12 * k := by
  rw [hB12_iff (k_bd k0 k1).1, hB12_iff (k_bd k0 k1).2]
  have := hV.z
  omega
theorem fr_right {n m x : Nat} {c : Row} (hn : n ≤ 8) (hm : m = (n + 1) * (n + 1)) (h : ZC n m c) (x1 : 1 ≤ x) (hx : x ≤ n) : RightM n (freeK x (n + 1) (oR n c m)) := by
  obtain ⟨_, _, _, hR, _⟩ := free_row hn hm h x1 hx
  exact hR
theorem rs_kM {n m x : Nat} {k : Int} {c : Row} {V : Nat → Int} (hn : n ≤ 8) (hm : m = (n + 1) * (n + 1)) (zc : ZC n m c) (hV : Pt V) (x1 : 1 ≤ x) (hx : x ≤ n) (k0 : 0 ≤ k) (k1 : k ≤ 1048576) : kM n (rsM n m x k c) V ↔ kM n (freeK x (n + 1) (oR n c m)) V ∧ V x = 12 * k := by
  have R1 := fr_right hn hm zc x1 hx
  have R2 : RightM n (limM (freeK x (n + 1) (oR n c m)) x 0 (2 * k + 1)) := R1.lim hx (by omega) (by omega) (by omega)
  unfold rsM
  rw [lim_kM (by omega) hx R2 (k_bd k0 k1).2, lim_kM hx (by omega) R1 (k_bd k0 k1).1, and_assoc, two_lims hV k0 k1]
theorem ex_kM {n m x : Nat} {k : Int} {c : Row} {V : Nat → Int} (hm : m = (n + 1) * (n + 1)) (zc : ZC n m c) (hV : Pt V) (x1 : 1 ≤ x) (hx : x ≤ n) (k0 : 0 ≤ k) (k1 : k ≤ 1048576) : kM n (exM n m x k c) V ↔ kM n (oR n c m) V ∧ V x = 12 * k := by
  have R1 := oR_right hm zc
  have R2 : RightM n (limM (oR n c m) x 0 (2 * k + 1)) := R1.lim hx (by omega) (by omega) (by omega)
  unfold exM
  rw [lim_kM (by omega) hx R2 (k_bd k0 k1).2, lim_kM hx (by omega) R1 (k_bd k0 k1).1, and_assoc, two_lims hV k0 k1]
theorem keep_in {n m : Nat} {p : Mat} {c : Row} {V : Nat → Int} (hm : m = (n + 1) * (n + 1)) (h : FullC n m p c) : inV n m c V = true ↔ keepsM n V 12 p := by
  unfold inV
  rw [h.cells]
  exact closed_keeps n m p V 12 hm (by omega) h.nar
theorem W_mono {a b x : Int} (h : holdsW a x 12) (hab : a ≤ b) (hb : F b) : holdsW b x 12 := by
  unfold holdsW at *
  have := F_opn hb
  have o : (opn : Int) = 4611686018427387904 ∨ True := .inr trivial
  unfold F Fin' at hb
  omega
end Go.Proofs.YtfffcmelkdmjaaaDoor

/-
  The valuations of what is come from, and of what guards leave.
-/
namespace Go.Proofs.YtfffcmelkdmjaaaDoor
open Go.RowKit
set_option linter.unusedVariables false
set_option maxRecDepth 100000
theorem rs_keeps {n x : Nat} {q : Mat} {V : Nat → Int} {k : Int} (hV : Pt V) (x1 : 1 ≤ x) (k0 : 0 ≤ k) (h : keepsM n V 12 q) : keepsM n (SV V x k) 12 (rsP x (2 * k + 1) (-(2 * k) + 1) q) := fun i j hi hj => by
  have z := hV.z
  by_cases a : i = x
  · subst a
    by_cases b : j = i
    · subst b
      rw [rsP_xx]
      unfold holdsW
      omega
    · rw [rsP_x _ _ _ b, SV_x, SV_o b]
      have h1 : holdsW (2 * k + 1) (12 * k) 12 := by unfold holdsW; omega
      have h2 := h 0 j (by omega) hj
      have := holdsW_pl h1 h2
      rw [show 12 * k + (V 0 - V j) = 12 * k - V j by omega] at this
      exact this
  · by_cases b : j = x
    · subst b
      rw [rsP_c _ _ _ a, SV_x, SV_o a]
      have h1 : holdsW (-(2 * k) + 1) (-(12 * k)) 12 := by unfold holdsW; omega
      have h2 := h i 0 hi (by omega)
      have := holdsW_pl h2 h1
      rw [show V i - V 0 + -(12 * k) = V i - 12 * k by omega] at this
      exact this
    · rw [rsP_o _ _ _ a b, SV_o a, SV_o b]
      exact h i j hi hj
theorem unset_pts {n m x : Nat} {k : Int} {c d c' : Row} {V : Nat → Int} (hn : n ≤ 8) (hm : m = (n + 1) * (n + 1)) (zc : ZC n m c) (hV : Pt V) (x1 : 1 ≤ x) (hx : x ≤ n) (k0 : 0 ≤ k) (k1 : k ≤ 1048576)
    (e : zoneR n (drf n m (rowsL n (exM n m x k c) (n + 1))) = some d) (e' : zoneR n (drf n m (rowsL n (freeK x (n + 1) (oR n d m)) (n + 1))) = some c') : inV n m c' V = inV n m c (SV V x k) := by
  have RX := zc_exM hm zc hx k0 k1
  have zd : ZC n m d := zc_drf hn hm (right_rows hm RX) e
  have RF := fr_right hn hm zd x1 hx
  have hS := hV.set x1 k0 (x := x)
  rw [Bool.eq_iff_iff]
  constructor
  · intro h
    have hz : ¬ d = fun _ => 0 := fun h0 => by
      have k := (pts hn hm hV RF e').1 h
      have := free_of x1 k 0 0 (by omega) (by omega) (by omega) (by omega)
      rw [oR_at hm (by omega) (by omega), h0, show V 0 - V 0 = 0 by omega] at this
      have t : holdsB 0 0 12 = true := this
      exact absurd t (by decide)
    rcases zc with rfl | ⟨p, hp⟩
    · have := ex_empty (n := n) (m := m) (x := x) (k := k) hm x1
      rw [e] at this
      injection this with this
      exact absurd this hz
    · have hk := nm_of k0 k1
      have rd := (hp.rd hm).exact hx x1 hk
      rcases rd_cases rd hn hm with r | r | ⟨C, FC, LC, r⟩
      · have e2 : zoneR n (drf n m (rowsL n (exM n m x k c) (n + 1))) = none := r
        rw [e] at e2; cases e2
      · have e2 : zoneR n (drf n m (rowsL n (exM n m x k c) (n + 1))) = some (fun _ => 0) := r
        rw [e] at e2; injection e2 with e2
        exact absurd e2 hz
      · have e2 : zoneR n (drf n m (rowsL n (exM n m x k c) (n + 1))) = some (cellsUpto n C m) := r
        rw [e] at e2; injection e2 with e2
        subst e2
        obtain ⟨c1, z1, _, R1, f1, p1, _⟩ := free_row hn hm zd x1 hx
        rw [e'] at f1
        injection f1 with f1
        subst f1
        have FF := frP_full hm FC x1 (x := x)
        have := p1 C FC
        rw [this] at h
        have hk2 := (keep_in hm FF).1 h
        have hr := rs_keeps hV x1 k0 hk2
        have bl := back_le (m := m) FC.cl LC hx x1 hk
        refine (keep_in hm hp).2 fun i j hi hj => ?_
        exact W_mono (hr i j hi hj) (bl i j hi hj) (hp.cl.F hi hj)
  · intro h
    have h1 := (kB_oR hm).1 h
    have h2 := (ex_kM hm zc hS x1 hx k0 k1).2 ⟨h1, SV_x⟩
    have h3 := (pts hn hm hS RX e).2 h2
    have h4 := (kB_oR hm).1 h3
    have h5 : kM n (freeK x (n + 1) (oR n d m)) (SV V x k) := free_kM hS x1 (oR_right hm zd) fun i j hi hj _ _ => h4 i j hi hj
    exact (pts hn hm hV RF e').2 ((free_set hV x1 k0 (oR_right hm zd)).1 h5)
theorem limK_kM {n : Nat} {L : Lims} {M : Mat} {V : Nat → Int} (hR : RightM n M) : ∀ K, bndA n L K = true → rgtA L K = true → (kM n (limK L K M) V ↔ kM n M V ∧ ∀ k, k < K → holdsB (L.b k) (V (L.i k).toNat - V (L.j k).toNat) 12 = true)
  | 0, _, _ => ⟨fun h => ⟨h, fun k hk => by omega⟩, fun h => h.1⟩
  | K + 1, hb, hr => by
    have hb' : bndA n L K = true := by have : (bndA n L K && bndB n L K) = true := hb; exact (Bool.and_eq_true _ _ ▸ this).1
    have hr' : rgtA L K = true := by have : (rgtA L K && rightB (L.b K)) = true := hr; exact (Bool.and_eq_true _ _ ▸ this).1
    have bK := bndA_at hb K (by omega)
    have rK := rgtA_at hr K (by omega)
    simp only [bndB, decide_eq_true_eq] at bK
    simp only [rightB, decide_eq_true_eq] at rK
    show kM n (limM (limK L K M) (L.i K).toNat (L.j K).toNat (L.b K)) V ↔ _
    rw [lim_kM (by omega) (by omega) (limK_right hR K hb' hr') rK, limK_kM hR K hb' hr']
    constructor
    · rintro ⟨⟨a, b⟩, c⟩
      refine ⟨a, fun k hk => ?_⟩
      by_cases e : k = K
      · subst e; exact c
      · exact b k (by omega)
    · rintro ⟨a, b⟩
      exact ⟨⟨a, fun k hk => b k (by omega)⟩, b K (by omega)⟩
/-- What a guard says is what its bounds say. -/
theorem gT_holds {x o k n : Int} {V : Nat → Int} (h : gE x o k n = 0) : (∀ t ∈ gT x o k n, holdsB t.2.2 (V t.1.toNat - V t.2.1.toNat) 12 = true) ↔ cmpB k (V x.toNat - V o.toNat - 12 * n) = true := by
  unfold gE at h
  split at h
  · split at h
    · split at h
      · rename_i hc hk hn'
        have b1 : ((2 * n = 2147483647) ∨ (-536870912 ≤ 2 * n ∧ 2 * n ≤ 536870913)) := by omega
        have b2 : ((2 * n + 1 = 2147483647) ∨ (-536870912 ≤ 2 * n + 1 ∧ 2 * n + 1 ≤ 536870913)) := by omega
        have b3 : ((2 * -n + 1 = 2147483647) ∨ (-536870912 ≤ 2 * -n + 1 ∧ 2 * -n + 1 ≤ 536870913)) := by omega
        have b4 : ((2 * -n = 2147483647) ∨ (-536870912 ≤ 2 * -n ∧ 2 * -n ≤ 536870913)) := by omega
        have e1 : ((1 : Int) = 1) = True := by simp
        rcases (show k = 1 ∨ k = 2 ∨ k = 3 ∨ k = 4 ∨ k = 5 by omega) with rfl | rfl | rfl | rfl | rfl
        · show (∀ t ∈ [(x, o, 2 * n)], _) ↔ decide (_ < _) = true
          simp only [List.mem_cons, List.not_mem_nil, or_false, forall_eq, hB12_iff b1, decide_eq_true_eq]
          omega
        · show (∀ t ∈ [(x, o, 2 * n + 1)], _) ↔ decide (_ ≤ _) = true
          simp only [List.mem_cons, List.not_mem_nil, or_false, forall_eq, hB12_iff b2, decide_eq_true_eq]
          omega
        · show (∀ t ∈ [(x, o, 2 * n + 1), (o, x, 2 * -n + 1)], _) ↔ decide (_ = _) = true
          simp only [List.mem_cons, List.not_mem_nil, or_false, forall_eq_or_imp, forall_eq, hB12_iff b2, hB12_iff b3, decide_eq_true_eq]
          omega
        · show (∀ t ∈ [(o, x, 2 * -n + 1)], _) ↔ decide (_ ≤ _) = true
          simp only [List.mem_cons, List.not_mem_nil, or_false, forall_eq, hB12_iff b3, decide_eq_true_eq]
          omega
        · show (∀ t ∈ [(o, x, 2 * -n)], _) ↔ decide (_ < _) = true
          simp only [List.mem_cons, List.not_mem_nil, or_false, forall_eq, hB12_iff b4, decide_eq_true_eq]
          omega
      · omega
    · omega
  · omega
theorem gLs_holds {L : Guas} {V : Nat → Int} : ∀ K, gErr L K = 0 → ((∀ t ∈ gLs L K, holdsB t.2.2 (V t.1.toNat - V t.2.1.toNat) 12 = true) ↔ guaH V L K = true)
  | 0, _ => ⟨fun _ => rfl, fun _ t ht => by cases ht⟩
  | K + 1, h => by
    have h0 := gErr_down h K (by omega)
    have h1 := gErr_at h K (by omega)
    show (∀ t ∈ gLs L K ++ gT (L.a K) (L.o K) (L.k K) (L.n K), _) ↔ (guaH V L K && cmpB (L.k K) (gD V L K)) = true
    rw [Bool.and_eq_true, ← gLs_holds K h0, show gD V L K = V (L.a K).toNat - V (L.o K).toNat - 12 * L.n K from rfl, ← gT_holds h1]
    constructor
    · intro h
      exact ⟨fun t ht => h t (List.mem_append_left _ ht), fun t ht => h t (List.mem_append_right _ ht)⟩
    · rintro ⟨h1, h2⟩ t ht
      rcases List.mem_append.1 ht with h | h
      · exact h1 t h
      · exact h2 t h
theorem lims_holds {T : List Tri3} {V : Nat → Int} : (∀ k, k < (limsOf T).q → holdsB ((limsOf T).b k) (V ((limsOf T).i k).toNat - V ((limsOf T).j k).toNat) 12 = true) ↔ ∀ t ∈ T, holdsB t.2.2 (V t.1.toNat - V t.2.1.toNat) 12 = true := by
  constructor
  · intro h t ht
    obtain ⟨k, hk, rfl⟩ := List.mem_iff_getElem.1 ht
    have := h k hk
    simp only [limsOf] at this
    rw [show T.getD k (0, 0, 0) = T[k] by simp [List.getD, hk]] at this
    exact this
  · intro h k hk
    have hk' : k < T.length := hk
    simp only [limsOf]
    rw [show T.getD k (0, 0, 0) = T[k] by simp [List.getD, hk']]
    exact h _ (List.getElem_mem hk')
/-- The valuations that guards leave of a zone. -/
theorem guards_pts {n m : Nat} {c c' : Row} {L : Guas} {V : Nat → Int} (hn : n ≤ 8) (hm : m = (n + 1) * (n + 1)) (zc : ZC n m c) (hV : Pt V) (hE : gErr L L.q = 0) (hb : bndA n (limsOf (gLs L L.q)) (limsOf (gLs L L.q)).q = true) (hr : rgtA (limsOf (gLs L L.q)) (limsOf (gLs L L.q)).q = true)
    (e : zoneR n (drf n m (rowsL n (limK (limsOf (gLs L L.q)) (limsOf (gLs L L.q)).q (oR n c m)) (n + 1))) = some c') : inV n m c' V = (inV n m c V && guaH V L L.q) := by
  have R := oR_right hm zc
  rw [Bool.eq_iff_iff, Bool.and_eq_true, pts hn hm hV (limK_right R _ hb hr) e, limK_kM R _ hb hr, ← kB_oR hm, lims_holds, gLs_holds _ hE]
theorem lims_bnd {n : Nat} {T : List Tri3} (hb : bndA n (limsOf T) (limsOf T).q = true) : ∀ t ∈ T, 0 ≤ t.1 ∧ t.1 ≤ n ∧ 0 ≤ t.2.1 ∧ t.2.1 ≤ n := fun t ht => by
  obtain ⟨i, hi, rfl⟩ := List.mem_iff_getElem.1 ht
  have h := bndA_at hb i hi
  have e : T.getD i (0, 0, 0) = T[i] := by simp [List.getD, hi]
  have : 0 ≤ (T.getD i (0, 0, 0)).1 ∧ (T.getD i (0, 0, 0)).1 ≤ n ∧ 0 ≤ (T.getD i (0, 0, 0)).2.1 ∧ (T.getD i (0, 0, 0)).2.1 ≤ n := of_decide_eq_true h
  rw [e] at this
  exact this
/-- Guards that are right for a zone speak of its clocks. -/
theorem guas_in {n : Nat} {L : Guas} (hE : gErr L L.q = 0) (hb : bndA n (limsOf (gLs L L.q)) (limsOf (gLs L L.q)).q = true) (k : Nat) (hk : k < L.q) : ∃ A B : Nat, A ≤ n ∧ B ≤ n ∧ L.a k = (A : Int) ∧ L.o k = (B : Int) ∧ 1 ≤ L.k k ∧ L.k k ≤ 5 ∧ -1048576 ≤ L.n k ∧ L.n k ≤ 1048576 := by
  have hg := gErr_at hE k hk
  have hall := lims_bnd hb
  have sub : ∀ K, k < K → ∀ t ∈ gT (L.a k) (L.o k) (L.k k) (L.n k), t ∈ gLs L K := by
    intro K
    induction K with
    | zero => intro h; omega
    | succ K ih =>
      intro h t ht
      show t ∈ gLs L K ++ gT (L.a K) (L.o K) (L.k K) (L.n K)
      by_cases e : k = K
      · subst e; exact List.mem_append_right _ ht
      · exact List.mem_append_left _ (ih (by omega) t ht)
  have fst : ∃ t ∈ gT (L.a k) (L.o k) (L.k k) (L.n k), (t.1 = L.a k ∧ t.2.1 = L.o k) ∨ (t.1 = L.o k ∧ t.2.1 = L.a k) := by
    unfold gT
    split
    · exact ⟨_, List.mem_singleton.2 rfl, .inl ⟨rfl, rfl⟩⟩
    · split
      · exact ⟨_, List.mem_singleton.2 rfl, .inl ⟨rfl, rfl⟩⟩
      · split
        · exact ⟨_, List.mem_singleton.2 rfl, .inr ⟨rfl, rfl⟩⟩
        · split
          · exact ⟨_, List.mem_singleton.2 rfl, .inr ⟨rfl, rfl⟩⟩
          · exact ⟨_, List.mem_cons_self, .inl ⟨rfl, rfl⟩⟩
  obtain ⟨t, ht, hx⟩ := fst
  have b := hall t (sub L.q hk t ht)
  unfold gE at hg
  split at hg
  · split at hg
    · split at hg
      · refine ⟨(L.a k).toNat, (L.o k).toNat, ?_, ?_, ?_, ?_, ?_⟩ <;> rcases hx with ⟨h1, h2⟩ | ⟨h1, h2⟩ <;> omega
      · omega
    · omega
  · omega
end Go.Proofs.YtfffcmelkdmjaaaDoor

/-
  What the calls of ops tell, and which valuations are in it.
-/
namespace Go.Proofs.YtfffcmelkdmjaaaDoor
open Go.RowKit
set_option linter.unusedVariables false
set_option maxRecDepth 100000
/-- A valuation of n clocks in memory. -/
structure Vec (w : World) (ad : Option Addr) (cap n : Nat) (l : List Int) : Prop where
  ints : IntsAt w (.slice ad n cap) l
  len : l.length = n
  bd : ∀ x ∈ l, 0 ≤ x ∧ x ≤ 10000000
theorem Vec.past {w w' : World} {ad : Option Addr} {cap n : Nat} {l : List Int} (h : Vec w ad cap n l) (hb : Below w.heap.size w w') : Vec w' ad cap n l := ⟨h.ints.past hb, h.len, h.bd⟩
theorem Vec.pt {w : World} {ad : Option Addr} {cap n : Nat} {l : List Int} (h : Vec w ad cap n l) : Pt (ptV l) := ⟨rfl, fun i => (ptV_bd (by omega) h.bd i).1⟩
theorem inC {b n m cap : Nat} {ad : Option Addr} {c : Row} {l : List Int} {w : World} (hn : n ≤ 8) (hn1 : 1 ≤ n) (hm : m = (n + 1) * (n + 1)) (zc : ZC n m c) (hz : ZoneAt w b n c) (hv : Vec w ad cap n l) :
    Calls Tryd.prog 43 #[.pointer (some ⟨b, 0, none⟩), .slice ad n cap] w fun e w' => e = .returned (.bool (inV n m c (ptV l))) ∧ Below w.heap.size w w' := in_any b n m cap ad c l w hn hn1 hm zc hz hv.len hv.ints hv.bd
theorem up_say {n m : Nat} {c : Row} (hn : n ≤ 8) (hm : m = (n + 1) * (n + 1)) (zc : ZC n m c) : ∃ c1, ZC n m c1 ∧ (∀ w b, ZoneAt w b n c → Tells w n 20 #[.pointer (some ⟨b, 0, none⟩)] (some c1)) ∧ ∀ V, Pt V → ∀ d, 0 ≤ d → inV n m c V = true → inV n m c1 (VD V d) = true := by
  obtain ⟨c1, R, e⟩ : ∃ c1, RightM n (upM (n + 1) (oR n c m)) ∧ zoneR n (drf n m (rowsL n (upM (n + 1) (oR n c m)) (n + 1))) = some c1 := by
    rcases zc with rfl | ⟨p, hp⟩
    · refine ⟨fun _ => 0, right_zero (m := m) fun i j hi hj => ?_, pm_hollow hm ?_⟩
      · rw [oR_zero]; unfold upM; split
        · exact .inr (.inr rfl)
        · exact .inl rfl
      · rw [oR_zero]; unfold upM; rw [if_neg (by omega)]
    · exact ⟨_, (upP_rd hm hp).right, up_is hn hm hp⟩
  refine ⟨c1, zc_drf hn hm (right_rows hm R) e, fun w b hz => ?_, fun V hV d hd h => ?_⟩
  · refine tells_of hm R e ?_
    have := up_any b n _ w hn hz (zc_32 hm zc)
    rw [← hm] at this
    exact this
  · exact (pts hn hm (hV.later hd) R e).2 (up_kM hV hd (oR_right hm zc) ((kB_oR hm).1 h))
theorem down_say {n m : Nat} {c : Row} (hn : n ≤ 8) (hm : m = (n + 1) * (n + 1)) (zc : ZC n m c) : ∃ c1, ZC n m c1 ∧ (∀ w b, ZoneAt w b n c → Tells w n 22 #[.pointer (some ⟨b, 0, none⟩)] (some c1)) ∧ ∀ V, Pt V → ∀ d, 0 ≤ d → inV n m c (VD V d) = true → inV n m c1 V = true := by
  obtain ⟨c1, R, e⟩ : ∃ c1, RightM n (downM (n + 1) (oR n c m)) ∧ zoneR n (drf n m (rowsL n (downM (n + 1) (oR n c m)) (n + 1))) = some c1 := by
    rcases zc with rfl | ⟨p, hp⟩
    · refine ⟨fun _ => 0, right_zero (m := m) fun i j hi hj => ?_, pm_hollow hm ?_⟩
      · rw [oR_zero]; unfold downM; split
        · exact .inr (.inl rfl)
        · exact .inl rfl
      · rw [oR_zero]; unfold downM; rw [if_neg (by omega)]
    · obtain ⟨q, F, hz1, hl, he⟩ := down_is hn hm hp
      exact ⟨_, (dnD_rd hm hp).right, hz1⟩
  refine ⟨c1, zc_drf hn hm (right_rows hm R) e, fun w b hz => ?_, fun V hV d hd h => ?_⟩
  · refine tells_of hm R e ?_
    have := down_any b n _ w hn hz (zc_32 hm zc)
    rw [← hm] at this
    exact this
  · exact (pts hn hm hV R e).2 (down_kM hV hd (oR_right hm zc) ((kB_oR hm).1 h))
/-- What Reset, Unset and Free of a clock tell together. -/
structure SetSay (n m x : Nat) (k : Int) (c : Row) (o3 o4 : Option Row) (c5 : Row) : Prop where
  t3 : ∀ w b, ZoneAt w b n c → Tells w n 45 #[.pointer (some ⟨b, 0, none⟩), .int .i64 x, .int .i64 k] o3
  t4 : ∀ w b, ZoneAt w b n c → Tells w n 46 #[.pointer (some ⟨b, 0, none⟩), .int .i64 x, .int .i64 k] o4
  t5 : ∀ w b g cap, ZoneAt w b n c → w.cell? ⟨g, 0, none⟩ = some (.int .i64 x) → Tells w n 47 #[.pointer (some ⟨b, 0, none⟩), .slice (some ⟨g, 0, none⟩) 1 cap] (some c5)
  z3 : ∀ c3, o3 = some c3 → ZC n m c3
  z4 : ∀ c4, o4 = some c4 → ZC n m c4
  z5 : ZC n m c5
  a3 : ∀ c3, o3 = some c3 → ∀ V, Pt V → inV n m c V = true → inV n m c3 (SV V x k) = true
  b3 : ∀ c3, o3 = some c3 → ∀ V, Pt V → inV n m c3 V = true → V x = 12 * k
  c3 : ∀ c3, o3 = some c3 → ∀ V, Pt V → inV n m c3 (SV V x k) = inV n m c5 V
  a4 : ∀ c4, o4 = some c4 → ∀ V, Pt V → inV n m c4 V = inV n m c (SV V x k)
  a5 : ∀ V, Pt V → inV n m c V = true → inV n m c5 V = true
  b5 : ∀ V, Pt V → inV n m c5 (SV V x k) = inV n m c5 V
theorem set_say {n m x : Nat} {k : Int} {c : Row} (hn : n ≤ 8) (hm : m = (n + 1) * (n + 1)) (zc : ZC n m c) (x1 : 1 ≤ x) (hx : x ≤ n) (k0 : 0 ≤ k) (k1 : k ≤ 1048576) : ∃ o3 o4 c5, SetSay n m x k c o3 o4 c5 := by
  obtain ⟨c5, z5, _, R5, e5, _, _⟩ := free_row hn hm zc x1 hx
  obtain ⟨o4, t4, n4, s4⟩ := unset_row hn hm zc x1 hx k0 k1
  have R3 := zc_rsM hn hm zc x1 hx k0 k1
  have z3 : ∀ c3, zoneR n (drf n m (rowsL n (rsM n m x k c) (n + 1))) = some c3 → ZC n m c3 := fun c3 e => zc_drf hn hm (right_rows hm R3) e
  have fr : ∀ V, Pt V → (inV n m c5 V = true ↔ kM n (freeK x (n + 1) (oR n c m)) V) := fun V hV => pts hn hm hV R5 e5
  have z4 : ∀ c4, o4 = some c4 → ∃ d, zoneR n (drf n m (rowsL n (exM n m x k c) (n + 1))) = some d ∧ zoneR n (drf n m (rowsL n (freeK x (n + 1) (oR n d m)) (n + 1))) = some c4 := fun c4 e => by
    cases ed : zoneR n (drf n m (rowsL n (exM n m x k c) (n + 1))) with
    | none => rw [n4 ed] at e; cases e
    | some d => exact ⟨d, rfl, (s4 d ed).trans e⟩
  have a5 : ∀ V, Pt V → inV n m c V = true → inV n m c5 V = true := fun V hV h => (fr V hV).2 (free_kM hV x1 (oR_right hm zc) fun i j hi hj _ _ => (kB_oR hm).1 h i j hi hj)
  have b5 : ∀ V, Pt V → inV n m c5 (SV V x k) = inV n m c5 V := fun V hV => by
    rw [Bool.eq_iff_iff, fr _ (hV.set x1 k0), fr _ hV]
    exact free_set hV x1 k0 (oR_right hm zc)
  have r3 : ∀ c3, zoneR n (drf n m (rowsL n (rsM n m x k c) (n + 1))) = some c3 → ∀ V, Pt V → (inV n m c3 V = true ↔ kM n (freeK x (n + 1) (oR n c m)) V ∧ V x = 12 * k) := fun c3 e V hV => by
    rw [pts hn hm hV R3 e, rs_kM hn hm zc hV x1 hx k0 k1]
  refine ⟨_, o4, c5, fun w b hz => reset_tells hn hm zc x1 hx k0 k1 w b hz, t4, fun w b g cap hz hg => free_tells hn hm zc x1 hx R5 e5 w b g cap hz hg, z3, fun c4 e => ?_, z5, fun c3 e V hV h => ?_, fun c3 e V hV h => ((r3 c3 e V hV).1 h).2, fun c3 e V hV => ?_, fun c4 e V hV => ?_, a5, b5⟩
  · obtain ⟨d, e1, e2⟩ := z4 c4 e
    have zd : ZC n m d := zc_drf hn hm (right_rows hm (zc_exM hm zc hx k0 k1)) e1
    exact zc_drf hn hm (right_rows hm (fr_right hn hm zd x1 hx)) e2
  · refine (r3 c3 e _ (hV.set x1 k0)).2 ⟨?_, SV_x⟩
    have := a5 V hV h
    rw [← b5 V hV] at this
    exact (fr _ (hV.set x1 k0)).1 this
  · rw [Bool.eq_iff_iff, r3 c3 e _ (hV.set x1 k0), ← fr _ (hV.set x1 k0), b5 V hV]
    exact ⟨fun h => h.1, fun h => ⟨h, SV_x⟩⟩
  · obtain ⟨d, e1, e2⟩ := z4 c4 e
    exact unset_pts hn hm zc hV x1 hx k0 k1 e1 e2
/-- The valuations that the law makes. -/
theorem valL_bd {l : List Int} (h : ∀ j, 0 ≤ l.getD j 0 ∧ l.getD j 0 ≤ 65535) : ∀ K, ∀ x ∈ valL l K, 0 ≤ x ∧ x ≤ 65535
  | 0, x, hx => by cases hx
  | K + 1, x, hx => by
    rcases List.mem_append.1 hx with h' | h'
    · exact valL_bd h K x h'
    · simp at h'; subst h'; exact h K
theorem addL_bd {l : List Int} {d B : Int} (h : ∀ j, 0 ≤ l.getD j 0 ∧ l.getD j 0 ≤ B) (d0 : 0 ≤ d) : ∀ K, ∀ x ∈ addL l d K, 0 ≤ x ∧ x ≤ B + d
  | 0, x, hx => by cases hx
  | K + 1, x, hx => by
    rcases List.mem_append.1 hx with h' | h'
    · exact addL_bd h d0 K x h'
    · rw [List.mem_singleton] at h'; subst h'; have := h K; omega
theorem addL_at (l : List Int) (d : Int) : ∀ K j, j < K → (addL l d K).getD j 0 = l.getD j 0 + d
  | K + 1, j, hj => by
    show (addL l d K ++ [l.getD K 0 + d]).getD j 0 = _
    by_cases e : j = K
    · subst e
      rw [List.getD_eq_getElem?_getD, List.getElem?_append_right (by rw [addL_len]; omega), addL_len]
      simp
    · rw [List.getD_eq_getElem?_getD, List.getElem?_append_left (by rw [addL_len]; omega), ← List.getD_eq_getElem?_getD]
      exact addL_at l d K j (by omega)
theorem later_V {l : List Int} {d : Int} {n : Nat} (i : Nat) (hi : i ≤ n) : ptV (addL l d n) i = VD (ptV l) d i := by
  match i with
  | 0 => rfl
  | i + 1 =>
    show (addL l d n).getD i 0 = _
    rw [addL_at l d n i (by omega)]
    unfold VD
    rw [if_neg (by omega)]
    rfl
theorem set_V {l : List Int} {x n : Nat} {k : Int} (hl : l.length = n) (x1 : 1 ≤ x) (hx : x ≤ n) (i : Nat) : ptV (l.set (x - 1) (12 * k)) i = SV (ptV l) x k i := by
  match i with
  | 0 => unfold SV; rw [if_neg (by omega)]; rfl
  | i + 1 =>
    show (l.set (x - 1) (12 * k)).getD i 0 = _
    unfold SV
    by_cases e : i + 1 = x
    · rw [if_pos e, List.getD_eq_getElem?_getD, show x - 1 = i by omega, List.getElem?_set_self (by omega)]
      rfl
    · rw [if_neg e, List.getD_eq_getElem?_getD, List.getElem?_set_ne (by omega), ← List.getD_eq_getElem?_getD]
      rfl
end Go.Proofs.YtfffcmelkdmjaaaDoor

/-
  What Guards tells of a zone, and which valuations are in it; what a call that may fail tells, by letters.
-/
namespace Go.Proofs.YtfffcmelkdmjaaaDoor
open Go.RowKit
set_option linter.unusedVariables false
set_option maxRecDepth 100000
/-- What Guards tells: an error, or the zone of what the guards leave. -/
def GuaSay (w' : World) (n m : Nat) (c : Row) (L : Guas) (e : Ending) : Prop :=
  (∃ k : Int, (k != 0) = true ∧ e = .returned (.tuple #[.pointer none, .int .i64 k])) ∨
  (∃ c6 b6, e = .returned (.tuple #[.pointer (some ⟨b6, 0, none⟩), .int .i64 0]) ∧ ZoneAt w' b6 n c6 ∧ ZC n m c6 ∧ (∀ V, Pt V → inV n m c6 V = (inV n m c V && guaH V L L.q)) ∧ ∀ k, k < L.q → ∃ A B : Nat, A ≤ n ∧ B ≤ n ∧ L.a k = (A : Int) ∧ L.o k = (B : Int) ∧ 1 ≤ L.k k ∧ L.k k ≤ 5 ∧ -1048576 ≤ L.n k ∧ L.n k ≤ 1048576)
theorem guards_say {n m b q cap : Nat} {ad : Option Addr} {c : Row} {L : Guas} {w : World} (hn : n ≤ 8) (hm : m = (n + 1) * (n + 1)) (zc : ZC n m c) (hz : ZoneAt w b n c) (hL : L.q = q) (hV : GuaV w ad L) (hk : ∀ k, k < L.q → 0 ≤ L.k k ∧ L.k k < 256) (hq : q * 32 ≤ 140737488355328) :
    Calls Tryd.prog 31 #[.pointer (some ⟨b, 0, none⟩), .slice ad q cap] w fun e w' => GuaSay w' n m c L e ∧ Below w.heap.size w w' := by
  have H := guards_main b n q cap ad c L w hn hz (zc_32 hm zc) hL hV hk hq
  rw [← hm] at H
  refine H.mono fun e w' ⟨h, hb⟩ => ⟨?_, hb⟩
  rcases h with ⟨h1, h2⟩ | ⟨h1, h2⟩
  · exact .inl ⟨_, by simpa using h1, h2⟩
  · rcases h2 with ⟨_, h3⟩ | ⟨_, _, h3⟩ | ⟨hb1, hr1, h3⟩
    · exact .inl ⟨12, by decide, h3⟩
    · exact .inl ⟨2, by decide, h3⟩
    · have R := limK_right (oR_right hm zc) _ hb1 hr1
      cases e6 : zoneR n (drf n m (rowsL n (limK (limsOf (gLs L L.q)) (limsOf (gLs L L.q)).q (oR n c m)) (n + 1))) with
      | none =>
        have := ops_zone hm R e6 h3
        exact .inl ⟨10, by decide, this⟩
      | some c6 =>
        obtain ⟨b6, _, h5, h6⟩ := ops_zone hm R e6 h3
        exact .inr ⟨c6, b6, h5, h6, zc_drf hn hm (right_rows hm R) e6, fun V hV => guards_pts hn hm zc hV h1 hb1 hr1 e6, fun k hk => guas_in h1 hb1 k hk⟩
def GuaS (w : World) (v : Value) (L : Guas) : Prop := ∃ ad cap, v = .slice ad L.q cap ∧ GuaV w ad L
/-- What a call that may fail has handed out. -/
def ZO (w : World) (n : Nat) (o : Option Row) (p : Option Addr) (k : Int) : Prop := match o with
  | none => p = none ∧ k = 10
  | some c => k = 0 ∧ ∃ b, p = some ⟨b, 0, none⟩ ∧ ZoneAt w b n c
theorem ZO.past {w w' : World} {n : Nat} {o : Option Row} {p : Option Addr} {k : Int} (h : ZO w n o p k) (hb : Below w.heap.size w w') : ZO w' n o p k := by
  cases o with
  | none => exact h
  | some c => obtain ⟨h1, b, h2, h3⟩ := h; exact ⟨h1, b, h2, h3.past hb⟩
theorem zo_of {w : World} {B n : Nat} {e : Ending} {o : Option Row} (h : ZoneOut w B n e o) : ∃ p k, e = .returned (.tuple #[.pointer p, .int .i64 k]) ∧ ZO w n o p k := by
  cases o with
  | none => exact ⟨none, 10, h, rfl, rfl⟩
  | some c => obtain ⟨b', _, h1, h2⟩ := h; exact ⟨_, _, h1, rfl, b', rfl, h2⟩
end Go.Proofs.YtfffcmelkdmjaaaDoor
