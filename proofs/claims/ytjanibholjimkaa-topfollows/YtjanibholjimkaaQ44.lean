/-
  Fractions in lowest terms: the one that stands for a quotient of two whole numbers, or that it cannot be held; the terms that sum and multiply make are lowest ones.
-/
import Derived.Test.YtjanibholjimkaaQ43
namespace Go.Proofs.Ytjanibholjimkaa
open Go.RowKit Go.Shelf
set_option linter.unusedVariables false
/-! ### Lowest terms -/
abbrev Co (a b : Int) : Prop := gcdI a b = 1
theorem co_all {a b : Int} (a0 : 0 ≤ a) (b0 : 0 ≤ b) : Co a b ↔ ∀ k : Int, 0 ≤ k → k ∣ a → k ∣ b → k = 1 := by
  obtain ⟨x, rfl⟩ := Int.eq_ofNat_of_zero_le a0
  obtain ⟨y, rfl⟩ := Int.eq_ofNat_of_zero_le b0
  unfold Co gcdI
  simp only [Int.toNat_natCast]
  constructor
  · intro h k k0 ha hb
    obtain ⟨k, rfl⟩ := Int.eq_ofNat_of_zero_le k0
    have := Nat.dvd_gcd (Int.natCast_dvd_natCast.1 ha) (Int.natCast_dvd_natCast.1 hb)
    have h' : Nat.gcd x y = 1 := by omega
    rw [h'] at this
    have := Nat.dvd_one.1 this
    omega
  · intro h
    exact h _ (by omega) (Int.natCast_dvd_natCast.2 (Nat.gcd_dvd_left x y)) (Int.natCast_dvd_natCast.2 (Nat.gcd_dvd_right x y))
theorem co_symm {a b : Int} (h : Co a b) : Co b a := by unfold Co gcdI at *; rw [Nat.gcd_comm]; exact h
theorem co_dvd_mul {k a b : Int} (k0 : 0 ≤ k) (a0 : 0 ≤ a) (h : Co k a) (hd : k ∣ a * b) : k ∣ b := by
  obtain ⟨x, rfl⟩ := Int.eq_ofNat_of_zero_le k0
  obtain ⟨y, rfl⟩ := Int.eq_ofNat_of_zero_le a0
  have h' : Nat.Coprime x y := by
    unfold Co gcdI at h
    simp only [Int.toNat_natCast] at h
    show Nat.gcd x y = 1
    omega
  have hd' : x ∣ y * b.natAbs := by
    have := Int.natAbs_dvd_natAbs.2 hd
    simpa [Int.natAbs_mul] using this
  have := h'.dvd_of_dvd_mul_left hd'
  refine Int.dvd_natAbs.1 ?_
  exact Int.natCast_dvd_natCast.2 this
theorem co_sub_left {k a b : Int} (k0 : 0 ≤ k) (a0 : 0 ≤ a) (b0 : 0 ≤ b) (h : Co a b) (hd : k ∣ a) : Co k b :=
  (co_all k0 b0).2 fun j j0 h1 h2 => (co_all a0 b0).1 h j j0 (Int.dvd_trans h1 hd) h2
theorem co_mul_right {a b c : Int} (a0 : 0 ≤ a) (b0 : 0 ≤ b) (c0 : 0 ≤ c) (h : Co a b) (h' : Co a c) : Co a (b * c) :=
  (co_all a0 (Int.mul_nonneg b0 c0)).2 fun j j0 h1 h2 =>
    (co_all a0 c0).1 h' j j0 h1 (co_dvd_mul j0 b0 (co_sub_left j0 a0 b0 h h1) h2)
theorem co_div {a b : Int} (a0 : 0 ≤ a) (b0 : 0 < b) : Co (a / gcdI a b) (b / gcdI a b) := by
  have g0 := gcdI_pos a b a0 b0
  obtain ⟨hx, hy⟩ := gcdI_dvd a b a0 (by omega)
  refine (co_all (Int.ediv_nonneg a0 (by omega)) (Int.ediv_nonneg (by omega) (by omega))).2 fun j j0 h1 h2 => ?_
  have e1 : j * gcdI a b ∣ a := by have := Int.mul_dvd_mul_right (gcdI a b) h1; rw [Int.ediv_mul_cancel hx] at this; exact this
  have e2 : j * gcdI a b ∣ b := by have := Int.mul_dvd_mul_right (gcdI a b) h2; rw [Int.ediv_mul_cancel hy] at this; exact this
  obtain ⟨x, rfl⟩ := Int.eq_ofNat_of_zero_le a0
  obtain ⟨y, rfl⟩ := Int.eq_ofNat_of_zero_le (show 0 ≤ b by omega)
  obtain ⟨k, rfl⟩ := Int.eq_ofNat_of_zero_le j0
  unfold gcdI at *
  simp only [Int.toNat_natCast] at *
  have f1 : k * Nat.gcd x y ∣ x := Int.natCast_dvd_natCast.1 (by rw [Int.natCast_mul]; exact e1)
  have f2 : k * Nat.gcd x y ∣ y := Int.natCast_dvd_natCast.1 (by rw [Int.natCast_mul]; exact e2)
  have := Nat.dvd_gcd f1 f2
  have g1 : 0 < Nat.gcd x y := by omega
  have le := Nat.le_of_dvd g1 this
  have : k ≤ 1 := by
    apply Nat.le_of_not_lt
    intro c
    have : 2 * Nat.gcd x y ≤ k * Nat.gcd x y := Nat.mul_le_mul_right _ c
    omega
  have : k ≠ 0 := by
    rintro rfl
    simp at e2
    omega
  omega
/-- Two fractions in lowest terms of one number are one. -/
theorem low_one {a b c d : Int} (a0 : 0 ≤ a) (b0 : 0 < b) (c0 : 0 ≤ c) (d0 : 0 < d) (h : Co a b) (h' : Co c d) (e : a * d = c * b) : a = c ∧ b = d := by
  have e1 : b ∣ d := co_dvd_mul (by omega) a0 (co_symm h) (by rw [e]; exact Int.dvd_mul_left _ _)
  have e2 : d ∣ b := co_dvd_mul (by omega) c0 (co_symm h') (by rw [← e]; exact Int.dvd_mul_left _ _)
  have hb : b = d := Int.le_antisymm (Int.le_of_dvd d0 e1) (Int.le_of_dvd b0 e2)
  refine ⟨?_, hb⟩
  rw [← hb] at e
  exact Int.eq_of_mul_eq_mul_right (by omega) e
/-! ### The fraction in lowest terms, or that it cannot be held -/
def hR (N D : Int) (g : Bool) : Int × Int × Int := (heldN N D g, heldD N D g, heldE N D g)
def canR (P Q : Int) : Int × Int × Int := hR (sz P / gcdI (sz P) Q) (Q / gcdI (sz P) Q) (decide (P < 0))
theorem hR_zero (D : Int) (g h : Bool) : hR 0 D g = hR 0 D h := by
  cases g <;> cases h <;> simp [hR, heldN, heldD, heldE, canHold, mostOf]
theorem sz_nn (n : Int) : 0 ≤ sz n := by unfold sz; split <;> omega
theorem sz_sgn (N : Int) (g : Bool) (h : 0 ≤ N) : sz (sgn N g) = N := by unfold sz sgn; cases g <;> simp <;> omega
theorem sz_mul (a b : Int) : sz (a * b) = sz a * sz b := by
  have e : ∀ n, sz n = (n.natAbs : Int) := by intro n; unfold sz; split <;> omega
  rw [e, e, e, Int.natAbs_mul]; simp
theorem sz_pos {b : Int} (h : 0 ≤ b) : sz b = b := by unfold sz; split <;> omega
/-- What is in lowest terms, and of that number. -/
theorem can_of {P Q N D : Int} {g : Bool} (q : 0 < Q) (n0 : 0 ≤ N) (d0 : 0 < D) (c : Co N D) (e : sgn N g * Q = P * D) : canR P Q = hR N D g := by
  have G0 := gcdI_pos (sz P) Q (sz_nn P) q
  obtain ⟨hx, hy⟩ := gcdI_dvd (sz P) Q (sz_nn P) (by omega)
  have cc := co_div (sz_nn P) q
  have px : 0 ≤ sz P / gcdI (sz P) Q := Int.ediv_nonneg (sz_nn P) (by omega)
  have py := Int.ediv_pos_of_pos_of_dvd q (Int.le_of_lt G0) hy
  have e' : N * Q = sz P * D := by
    have := congrArg sz e
    rw [sz_mul, sz_mul, sz_sgn _ _ n0, sz_pos (by omega : 0 ≤ Q), sz_pos (by omega : 0 ≤ D)] at this
    exact this
  have cx := Int.ediv_mul_cancel hx
  have cy := Int.ediv_mul_cancel hy
  have e2 : sz P / gcdI (sz P) Q * D = N * (Q / gcdI (sz P) Q) := by
    generalize sz P / gcdI (sz P) Q = x at *
    generalize Q / gcdI (sz P) Q = y at *
    generalize gcdI (sz P) Q = G at *
    rw [← cx, ← cy] at e'
    refine Int.eq_of_mul_eq_mul_right (a := G) (by omega) ?_
    rw [Int.mul_assoc, Int.mul_comm D G, ← Int.mul_assoc, ← e', Int.mul_assoc]
  obtain ⟨h1, h2⟩ := low_one px py n0 d0 cc c e2
  unfold canR
  rw [h1, h2]
  by_cases z : N = 0
  · subst z; exact hR_zero _ _ _
  · have : decide (P < 0) = g := by
      cases g
      · have : 0 < P * D := by rw [← e]; exact Int.mul_pos (by simp [sgn]; omega) q
        have : 0 < P := Int.pos_of_mul_pos_left this d0
        simp; omega
      · have : P * D < 0 := by rw [← e]; exact Int.mul_neg_of_neg_of_pos (by simp [sgn]; omega) q
        have : P < 0 := by
          apply Int.lt_of_not_ge
          intro c
          have := Int.mul_nonneg c (Int.le_of_lt d0)
          omega
        simp; omega
    rw [this]
theorem sz_def (P : Int) : sgn (sz P) (decide (P < 0)) = P := by unfold sgn sz; by_cases c : P < 0 <;> simp [c]
theorem can_congr {P Q P' Q' : Int} (q : 0 < Q) (q' : 0 < Q') (e : P * Q' = P' * Q) : canR P Q = canR P' Q' := by
  have G0 := gcdI_pos (sz P') Q' (sz_nn P') q'
  obtain ⟨hx, hy⟩ := gcdI_dvd (sz P') Q' (sz_nn P') (by omega)
  have py := Int.ediv_pos_of_pos_of_dvd q' (Int.le_of_lt G0) hy
  refine can_of q (Int.ediv_nonneg (sz_nn P') (by omega)) py (co_div (sz_nn P') q') ?_
  have cx := Int.ediv_mul_cancel hx
  have cy := Int.ediv_mul_cancel hy
  have sd := sz_def P'
  generalize decide (P' < 0) = s at *
  generalize sz P' / gcdI (sz P') Q' = x at *
  generalize Q' / gcdI (sz P') Q' = y at *
  generalize gcdI (sz P') Q' = G at *
  refine Int.eq_of_mul_eq_mul_right (a := G) (by omega) ?_
  have : sgn x s * G = P' := by rw [← sd, ← cx]; unfold sgn; cases s <;> simp [Int.neg_mul]
  rw [Int.mul_assoc, Int.mul_comm Q G, ← Int.mul_assoc, this, ← e, ← cy, Int.mul_assoc]
/-- A right fraction is its own lowest terms. -/
theorem right_iff {n d : Int} : rightR n d = true ↔ 0 < d ∧ Co (sz n) d := by
  unfold rightR Co
  constructor
  · intro h
    simp at h
    obtain ⟨h1, h2⟩ := h
    rw [sz_pos (b := d) (by omega)] at h2
    exact ⟨h1, h2⟩
  · rintro ⟨h1, h2⟩
    simp [h1, sz_pos (by omega : 0 ≤ d), h2]
theorem can_right {P Q n d : Int} (q : 0 < Q) (r : rightR n d = true) (n0 : -9223372036854775808 ≤ n) (n1 : n ≤ 9223372036854775807) (d1 : d ≤ 9223372036854775807) (e : n * Q = P * d) : canR P Q = (n, d, 0) := by
  obtain ⟨d0, c⟩ := right_iff.1 r
  rw [can_of q (sz_nn n) d0 c (g := decide (n < 0)) (by rw [sz_def]; exact e)]
  have h : canHold (sz n) d (decide (n < 0)) = true := by
    unfold canHold mostOf sz
    by_cases c : n < 0 <;> simp [c] <;> omega
  have := sz_def n
  unfold sgn at this
  unfold hR heldN heldD heldE
  rw [h, this]
  rfl
/-- An answer without an error is right, and of that number. -/
theorem can_ok {P Q : Int} (q : 0 < Q) (h : (canR P Q).2.2 = 0) : rightR (canR P Q).1 (canR P Q).2.1 = true ∧ (canR P Q).1 * Q = P * (canR P Q).2.1 ∧ -9223372036854775808 ≤ (canR P Q).1 ∧ (canR P Q).1 ≤ 9223372036854775807 ∧ (canR P Q).2.1 ≤ 9223372036854775807 := by
  have G0 := gcdI_pos (sz P) Q (sz_nn P) q
  obtain ⟨hx, hy⟩ := gcdI_dvd (sz P) Q (sz_nn P) (by omega)
  have px : 0 ≤ sz P / gcdI (sz P) Q := Int.ediv_nonneg (sz_nn P) (by omega)
  have py := Int.ediv_pos_of_pos_of_dvd q (Int.le_of_lt G0) hy
  have cc := co_div (sz_nn P) q
  have cx := Int.ediv_mul_cancel hx
  have cy := Int.ediv_mul_cancel hy
  have sd := sz_def P
  unfold canR hR at *
  generalize sz P / gcdI (sz P) Q = x at *
  generalize Q / gcdI (sz P) Q = y at *
  generalize gcdI (sz P) Q = G at *
  have ch : canHold x y (decide (P < 0)) = true := by
    cases c : canHold x y (decide (P < 0)) with
    | true => rfl
    | false => simp [heldE, c] at h
  have e1 : heldN x y (decide (P < 0)) = sgn x (decide (P < 0)) := by simp [heldN, ch, sgn]
  have e2 : heldD x y (decide (P < 0)) = y := by simp [heldD, ch]
  simp only [e1, e2]
  refine ⟨right_iff.2 ⟨py, ?_⟩, ?_, ?_⟩
  · rw [sz_sgn _ _ px]; exact cc
  · generalize decide (P < 0) = s at *
    have : sgn x s * G = P := by
      rw [← cx] at sd
      rw [← sd]
      unfold sgn
      cases s <;> simp [Int.neg_mul]
    generalize sgn x s = z at *
    rw [← this, ← cy, Int.mul_assoc, Int.mul_comm G]
  · unfold canHold mostOf at ch
    unfold sgn
    by_cases c : P < 0 <;> simp [c] at ch ⊢ <;> omega
theorem sgn_mul' (a b : Int) (g : Bool) : sgn (a * b) g = sgn a g * b := by unfold sgn; split <;> simp [Int.neg_mul]
theorem dvd_sgn {k a : Int} {g : Bool} : k ∣ sgn a g ↔ k ∣ a := by unfold sgn; cases g <;> simp [Int.dvd_neg]
/-- Of right terms the sum's terms are lowest ones. -/
theorem sum_low (an ad bn bd : Int) (ag bg : Bool) (a0 : 0 ≤ an) (b0 : 0 ≤ bn) (d0 : 0 < ad) (e0 : 0 < bd) (ca : Co an ad) (cb : Co bn bd) :
    Co (sNum an ad ag bn bd bg) (sDen an ad ag bn bd bg) ∧ 0 ≤ sNum an ad ag bn bd bg ∧ 0 < sDen an ad ag bn bd bg ∧ sgn (sNum an ad ag bn bd bg) (sS an ad ag bn bd bg) * (ad * bd) = (sgn an ag * bd + sgn bn bg * ad) * sDen an ad ag bn bd bg := by
  have G0 : 0 < sG ad bd := gcdI_pos _ _ (by omega) e0
  obtain ⟨hx, hy⟩ := gcdI_dvd ad bd (by omega) (by omega)
  have hx : sG ad bd ∣ ad := hx
  have hy : sG ad bd ∣ bd := hy
  have px := Int.ediv_pos_of_pos_of_dvd d0 (Int.le_of_lt G0) hx
  have py := Int.ediv_pos_of_pos_of_dvd e0 (Int.le_of_lt G0) hy
  have cxy : Co (ad / sG ad bd) (bd / sG ad bd) := co_div (Int.le_of_lt d0) e0
  have cx := Int.ediv_mul_cancel hx
  have cy := Int.ediv_mul_cancel hy
  have M0 : 0 ≤ sM an ad ag bn bd bg := by
    unfold sM addM
    have := Int.mul_nonneg a0 (Int.le_of_lt py)
    have := Int.mul_nonneg b0 (Int.le_of_lt px)
    split
    · omega
    · split <;> omega
  have Ms : sgn (sM an ad ag bn bd bg) (sS an ad ag bn bd bg) = sgn an ag * (bd / sG ad bd) + sgn bn bg * (ad / sG ad bd) := by
    rw [← sgn_mul', ← sgn_mul']
    exact add_sgn _ _ ag bg
  have r0 := Int.emod_nonneg (sM an ad ag bn bd bg) (show sG ad bd ≠ 0 by omega)
  have H0 : 0 < sH an ad ag bn bd bg := gcdI_pos _ _ r0 G0
  have Hg : sH an ad ag bn bd bg = gcdI (sM an ad ag bn bd bg) (sG ad bd) := by
    unfold sH gcdI
    have e : (sM an ad ag bn bd bg % sG ad bd).toNat = (sM an ad ag bn bd bg).toNat % (sG ad bd).toNat := Int.toNat_emod M0 (by omega)
    rw [e, ← Nat.gcd_rec, Nat.gcd_comm]
  obtain ⟨hm, hk⟩ := gcdI_dvd (sM an ad ag bn bd bg) (sG ad bd) M0 (by omega)
  have cq : Co (sM an ad ag bn bd bg / sH an ad ag bn bd bg) (sG ad bd / sH an ad ag bn bd bg) := by rw [Hg]; exact co_div M0 G0
  rw [← Hg] at hm hk
  have hb : sH an ad ag bn bd bg ∣ bd := Int.dvd_trans hk hy
  have pb := Int.ediv_pos_of_pos_of_dvd e0 (Int.le_of_lt H0) hb
  have N0 : 0 ≤ sNum an ad ag bn bd bg := Int.ediv_nonneg M0 (by omega)
  have cm := Int.ediv_mul_cancel hm
  have ck := Int.ediv_mul_cancel hk
  have cb' := Int.ediv_mul_cancel hb
  have xd : ad / sG ad bd ∣ ad := ⟨sG ad bd, cx.symm⟩
  have yd : bd / sG ad bd ∣ bd := ⟨sG ad bd, cy.symm⟩
  have nd : sNum an ad ag bn bd bg ∣ sM an ad ag bn bd bg := ⟨sH an ad ag bn bd bg, cm.symm⟩
  have M1 : Co (sM an ad ag bn bd bg) (ad / sG ad bd) := (co_all M0 (Int.le_of_lt px)).2 fun k k0 h1 h2 => by
    have h3 : k ∣ sgn an ag * (bd / sG ad bd) := by
      have := dvd_sgn (g := sS an ad ag bn bd bg).2 h1
      rw [Ms] at this
      exact (Int.dvd_iff_dvd_of_dvd_add this).2 (Int.dvd_mul_of_dvd_right h2)
    rw [← sgn_mul', dvd_sgn, Int.mul_comm] at h3
    have h4 := co_dvd_mul k0 (Int.le_of_lt py) (co_sub_left k0 (Int.le_of_lt px) (Int.le_of_lt py) cxy h2) h3
    exact (co_all a0 (Int.le_of_lt d0)).1 ca k k0 h4 (Int.dvd_trans h2 xd)
  have M2 : Co (sM an ad ag bn bd bg) (bd / sG ad bd) := (co_all M0 (Int.le_of_lt py)).2 fun k k0 h1 h2 => by
    have h3 : k ∣ sgn bn bg * (ad / sG ad bd) := by
      have := dvd_sgn (g := sS an ad ag bn bd bg).2 h1
      rw [Ms] at this
      exact (Int.dvd_iff_dvd_of_dvd_add this).1 (Int.dvd_mul_of_dvd_right h2)
    rw [← sgn_mul', dvd_sgn, Int.mul_comm] at h3
    have h4 := co_dvd_mul k0 (Int.le_of_lt px) (co_sub_left k0 (Int.le_of_lt py) (Int.le_of_lt px) (co_symm cxy) h2) h3
    exact (co_all b0 (Int.le_of_lt e0)).1 cb k k0 h4 (Int.dvd_trans h2 yd)
  have eb : bd / sH an ad ag bn bd bg = bd / sG ad bd * (sG ad bd / sH an ad ag bn bd bg) := by
    refine Int.eq_of_mul_eq_mul_right (a := sH an ad ag bn bd bg) (by omega) ?_
    rw [cb', Int.mul_assoc, ck, cy]
  have pg : 0 ≤ sG ad bd / sH an ad ag bn bd bg := Int.ediv_nonneg (by omega) (by omega)
  refine ⟨?_, N0, Int.mul_pos px pb, ?_⟩
  · show Co (sNum an ad ag bn bd bg) (ad / sG ad bd * (bd / sH an ad ag bn bd bg))
    rw [eb]
    refine co_mul_right N0 (Int.le_of_lt px) (Int.mul_nonneg (Int.le_of_lt py) pg) (co_sub_left N0 M0 (Int.le_of_lt px) M1 nd) ?_
    exact co_mul_right N0 (Int.le_of_lt py) pg (co_sub_left N0 M0 (Int.le_of_lt py) M2 nd) cq
  · have Ms' : sgn (sNum an ad ag bn bd bg) (sS an ad ag bn bd bg) * sH an ad ag bn bd bg = sgn an ag * (bd / sG ad bd) + sgn bn bg * (ad / sG ad bd) := by
      rw [← sgn_mul']
      have e : sNum an ad ag bn bd bg * sH an ad ag bn bd bg = sM an ad ag bn bd bg := cm
      rw [e, Ms]
    have eD : sDen an ad ag bn bd bg = ad / sG ad bd * (bd / sH an ad ag bn bd bg) := rfl
    rw [eD, eb]
    generalize sgn (sNum an ad ag bn bd bg) (sS an ad ag bn bd bg) = N at *
    generalize sgn an ag = A at *
    generalize sgn bn bg = B at *
    clear M1 M2 cxy xd yd eb hb hx hy px py cq hm hk nd Ms N0 M0 r0 ca cb pb cb' cm Hg eD pg
    generalize sH an ad ag bn bd bg = H at *
    generalize ad / sG ad bd = x at *
    generalize bd / sG ad bd = y at *
    generalize sG ad bd = G at *
    rw [← cx, ← cy]
    generalize G / H = t at *
    rw [← ck]
    have : (A * (y * (t * H)) + B * (x * (t * H))) = (A * y + B * x) * (t * H) := by rw [Int.add_mul]; ac_rfl
    rw [this, ← Ms']
    ac_rfl
end Go.Proofs.Ytjanibholjimkaa
