/-
  What becomes of closed forms, in numbers: Reset, Unset.
-/
import Derived.Test.YtjanibholjimkaaQ25
namespace Go.Proofs.Ytjanibholjimkaa
open Go.RowKit
set_option linter.unusedVariables false
set_option maxRecDepth 100000
theorem tg_min {s x z : Int} (hz : ¬ z = 2147483647) (hx : x = 2147483647 ∨ x ≤ 536870913) (z1 : z ≤ 536870913) : tgV s (min x z) = if z < tgV s x then z else tgV s x := by
  unfold tgV
  rw [if_neg (by omega)]
  by_cases e : x = 2147483647
  · rw [if_pos e]
    split <;> omega
  · rw [if_neg e]
    split <;> omega
def limP (p : Mat) (i j : Nat) (v : Int) : Mat := fun a b => if a = i ∧ b = j then min (p i j) v else p a b
theorem limP_at (p : Mat) (i j : Nat) (v : Int) : limP p i j v i j = min (p i j) v := by unfold limP; rw [if_pos ⟨rfl, rfl⟩]
theorem limP_o {p : Mat} {i j a b : Nat} {v : Int} (h : ¬ (a = i ∧ b = j)) : limP p i j v a b = p a b := by unfold limP; rw [if_neg h]
theorem Rd.lim {n i j : Nat} {M p : Mat} {v : Int} (h : Rd n M p) (hi : i ≤ n) (hj : j ≤ n) (v0 : -536870912 ≤ v) (v1 : v ≤ 536870913) : Rd n (limM M i j v) (limP p i j v) := by
  have r := h.right i j hi hj
  refine ⟨fun a b ha hb => ?_, fun a b ha hb => ?_⟩
  · unfold limM upd
    split
    · exact .inr (by omega)
    · exact h.right a b ha hb
  · unfold limM upd limP
    by_cases e : a = i ∧ b = j
    · obtain ⟨rfl, rfl⟩ := e
      rw [if_pos ⟨rfl, rfl⟩, if_pos ⟨rfl, rfl⟩, tg_min (by omega) (by omega) v1, h.val a b hi hj]
      split <;> omega
    · rw [if_neg e, if_neg e]
      exact h.val a b ha hb
/-- A number that a clock is set to, as bounds. -/
structure Nm (k a b : Int) : Prop where
  lo : 0 ≤ k
  hi : k ≤ 1048576
  ea : a = 2 * k + 1
  eb : b = -(2 * k) + 1
theorem Nm.ab {k a b : Int} (h : Nm k a b) : pl a b = 1 ∧ pl b a = 1 := by
  obtain ⟨h0, h1, rfl, rfl⟩ := h
  have ho := opn_val
  have c1 := pl_cases (2 * k + 1) (-(2 * k) + 1)
  have c2 := pl_cases (-(2 * k) + 1) (2 * k + 1)
  omega
theorem Nm.fa {k a b : Int} (h : Nm k a b) : Fin' 536870913 a := .inr (by have := h.lo; have := h.hi; have := h.ea; omega)
theorem Nm.fb {k a b : Int} (h : Nm k a b) : Fin' 536870913 b := .inr (by have := h.lo; have := h.hi; have := h.eb; omega)
theorem S_F {x : Int} (h : Fin' 536870913 x) : F x := h.mono (by decide)
theorem S_pl {x y : Int} (h : Fin' 536870913 x) (h' : Fin' 536870913 y) : Fin' 1073741827 (pl x y) := pl_fin h h'
theorem S_plF {x y : Int} (h : Fin' 536870913 x) (h' : Fin' 536870913 y) : F (pl x y) := (S_pl h h').mono (by decide)
def rsP (x : Nat) (a b : Int) (p : Mat) : Mat := fun i j => if i = x then (if j = x then 1 else pl a (p 0 j)) else if j = x then pl (p i 0) b else p i j
theorem rsP_xx (x : Nat) (a b : Int) (p : Mat) : rsP x a b p x x = 1 := by unfold rsP; rw [if_pos rfl, if_pos rfl]
theorem rsP_x {x j : Nat} (a b : Int) (p : Mat) (h : ¬ j = x) : rsP x a b p x j = pl a (p 0 j) := by unfold rsP; rw [if_pos rfl, if_neg h]
theorem rsP_c {x i : Nat} (a b : Int) (p : Mat) (h : ¬ i = x) : rsP x a b p i x = pl (p i 0) b := by unfold rsP; rw [if_neg h, if_pos rfl]
theorem rsP_o {x i j : Nat} (a b : Int) (p : Mat) (h : ¬ i = x) (h' : ¬ j = x) : rsP x a b p i j = p i j := by unfold rsP; rw [if_neg h, if_neg h']
theorem rsP_cl {n x : Nat} {p : Mat} {k a b : Int} (h : Cl n p) (hf : FinM n 536870913 p) (hk : Nm k a b) : Cl n (rsP x a b p) := by
  have fa := hk.fa
  have fb := hk.fb
  have f : ∀ {i j}, i ≤ n → j ≤ n → Fin' 536870913 (p i j) := fun {i j} hi hj => hf i j hi hj
  refine ⟨fun i j hi hj => ?_, fun i hi => ?_, fun c hc i j hi hj => ?_⟩
  · unfold rsP
    split
    · split
      · exact .inr ⟨by omega, by omega⟩
      · exact (S_pl fa (f (by omega) hj)).mono (by decide)
    · split
      · exact (S_pl (f hi (by omega)) fb).mono (by decide)
      · exact h.fin i j hi hj
  · by_cases c : i = x
    · subst c; exact rsP_xx _ _ _ _
    · rw [rsP_o a b p c c]; exact h.one i hi
  · have hc' : c ≤ n := by omega
    have z0 : (0 : Nat) ≤ n := by omega
    by_cases ci : i = x
    · subst ci
      by_cases cc : c = i
      · subst cc
        rw [rsP_xx]
        by_cases cj : j = c
        · subst cj; rw [rsP_xx]; decide
        · rw [rsP_x a b p cj, one_pl (S_plF fa (f z0 hj))]; exact Int.le_refl _
      · rw [rsP_x a b p cc]
        by_cases cj : j = i
        · subst cj
          rw [rsP_xx, rsP_c a b p cc]
          have t := h.t z0 z0 hc'
          rw [h.one 0 z0] at t
          have e1 : pl (pl a (p 0 c)) (pl (p c 0) b) = pl a (pl (pl (p 0 c) (p c 0)) b) := by
            rw [pl_assoc (S_F fa) (S_F (f z0 hc')) (S_plF (f hc' z0) fb), pl_assoc (S_F (f z0 hc')) (S_F (f hc' z0)) (S_F fb)]
          rw [e1]
          have fm := S_plF (f z0 hc') (f hc' z0)
          have m1 := pl_mono F1 (S_F fb) fm (S_F fb) t (Int.le_refl _)
          rw [one_pl (S_F fb)] at m1
          have fm2 : F (pl (pl (p 0 c) (p c 0)) b) := (pl_fin' (S_pl (f z0 hc') (f hc' z0)) fb (by decide) (by decide)).mono (by decide)
          have m2 := pl_mono (S_F fa) (S_F fb) (S_F fa) fm2 (Int.le_refl _) m1
          rw [hk.ab.1] at m2
          exact m2
        · rw [rsP_x a b p cj, rsP_o a b p cc cj, pl_assoc (S_F fa) (S_F (f z0 hc')) (S_F (f hc' hj))]
          exact pl_mono (S_F fa) (S_F (f z0 hj)) (S_F fa) (S_plF (f z0 hc') (f hc' hj)) (Int.le_refl _) (h.t z0 hj hc')
    · by_cases cc : c = x
      · subst cc
        rw [rsP_c a b p ci]
        by_cases cj : j = c
        · subst cj
          rw [rsP_c a b p ci, rsP_xx, pl_one (S_plF (f hi z0) fb)]; exact Int.le_refl _
        · rw [rsP_o a b p ci cj, rsP_x a b p cj]
          have e1 : pl (pl (p i 0) b) (pl a (p 0 j)) = pl (p i 0) (p 0 j) := by
            rw [pl_assoc (S_F (f hi z0)) (S_F fb) (S_plF fa (f z0 hj)), ← pl_assoc (S_F fb) (S_F fa) (S_F (f z0 hj)), hk.ab.2, one_pl (S_F (f z0 hj))]
          rw [e1]
          exact h.t hi hj z0
      · rw [rsP_o a b p ci cc]
        by_cases cj : j = x
        · subst cj
          rw [rsP_c a b p ci, rsP_c a b p cc, ← pl_assoc (S_F (f hi hc')) (S_F (f hc' z0)) (S_F fb)]
          exact pl_mono (S_F (f hi z0)) (S_F fb) (S_plF (f hi hc') (f hc' z0)) (S_F fb) (h.t hi z0 hc') (Int.le_refl _)
        · rw [rsP_o a b p ci cj, rsP_o a b p cc cj]
          exact h.t hi hj hc'
theorem FullC.finM {n m : Nat} {p : Mat} {c : Row} (h : FullC n m p c) (hm : m = (n + 1) * (n + 1)) : FinM n 536870913 p := fun i j hi hj => h.fin hm hi hj
theorem rsP_low {n m x : Nat} {p : Mat} {c : Row} {k a b : Int} (h : FullC n m p c) (hm : m = (n + 1) * (n + 1)) (hk : Nm k a b) (x1 : 1 ≤ x) (j : Nat) (hj : j ≤ n) : rsP x a b p 0 j ≤ 1 := by
  by_cases cj : j = x
  · subst cj
    rw [rsP_c a b p (by omega), h.cl.one 0 (by omega), one_pl (S_F hk.fb)]
    have := hk.eb
    have := hk.lo
    omega
  · rw [rsP_o a b p (by omega) cj]; exact h.low j hj
/-- What the draft of Reset reads as. -/
def rsD (x : Nat) (a b : Int) (p : Mat) : Mat := limP (limP (frP x p) x 0 a) 0 x b
theorem Rd.reset {n x : Nat} {M p : Mat} {k a b : Int} (h : Rd n M p) (hx : x ≤ n) (x1 : 1 ≤ x) (hk : Nm k a b) : Rd n (limM (limM (freeK x (n + 1) M) x 0 a) 0 x b) (rsD x a b p) := by
  have fa := hk.fa
  have fb := hk.fb
  have h0 := hk.lo
  have h1 := hk.hi
  have e1 := hk.ea
  have e2 := hk.eb
  exact ((h.free x1).lim hx (by omega) (by omega) (by omega)).lim (by omega) hx (by omega) (by omega)
theorem rsD_x0 {x : Nat} (a b : Int) (p : Mat) (x1 : 1 ≤ x) : rsD x a b p x 0 = min opn a := by
  unfold rsD
  rw [limP_o (by omega), limP_at, frP_x, if_neg (by omega)]
theorem rsD_0x {x : Nat} (a b : Int) (p : Mat) (x1 : 1 ≤ x) : rsD x a b p 0 x = min (p 0 0) b := by
  unfold rsD
  rw [limP_at, limP_o (by omega), frP_c p (by omega)]
theorem rsD_o {x i j : Nat} (a b : Int) (p : Mat) (h : ¬ (i = x ∧ j = 0)) (h' : ¬ (i = 0 ∧ j = x)) : rsD x a b p i j = frP x p i j := by
  unfold rsD
  rw [limP_o h', limP_o h]
theorem reset_is {n m x : Nat} {p : Mat} {c : Row} {k a b : Int} (hn : n ≤ 8) (hm : m = (n + 1) * (n + 1)) (h : FullC n m p c) (hx : x ≤ n) (x1 : 1 ≤ x) (hk : Nm k a b) :
    zoneR n (drf n m (rowsL n (limM (limM (freeK x (n + 1) (oR n c m)) x 0 a) 0 x b) (n + 1))) = if narAll n (rsP x a b p) m = true then some (cellsUpto n (rsP x a b p) m) else none := by
  have z0 : (0 : Nat) ≤ n := by omega
  have fa := S_F hk.fa
  have fb := S_F hk.fb
  have b1 : b ≤ 1 := by have := hk.eb; have := hk.lo; omega
  refine ((h.rd hm).reset hx x1 hk).is hn hm (rsP_cl h.cl (h.finM hm) hk) (fun i j hi hj => ?_) (fun s hs hl i j hi hj => ?_)
  · by_cases c1 : i = x ∧ j = 0
    · obtain ⟨rfl, rfl⟩ := c1
      rw [rsD_x0 a b p x1, rsP_x a b p (by omega), h.cl.one 0 z0, pl_one fa]
      have := F_opn fa
      omega
    · by_cases c2 : i = 0 ∧ j = x
      · obtain ⟨rfl, rfl⟩ := c2
        rw [rsD_0x a b p x1, rsP_c a b p (by omega), h.cl.one 0 z0, one_pl fb]
        omega
      · rw [rsD_o a b p c1 c2]
        by_cases ci : i = x
        · subst ci
          rw [frP_x]
          by_cases cj : j = i
          · subst cj; rw [rsP_xx, if_pos rfl]; exact Int.le_refl _
          · rw [if_neg cj]
            exact F_opn ((rsP_cl h.cl (h.finM hm) hk).F hi hj)
        · by_cases cj : j = x
          · subst cj
            rw [frP_c p ci, rsP_c a b p ci]
            have m1 := pl_mono (h.cl.F hi z0) fb (h.cl.F hi z0) F1 (Int.le_refl _) b1
            rw [pl_one (h.cl.F hi z0)] at m1
            exact m1
          · rw [frP_o p ci cj, rsP_o a b p ci cj]; exact Int.le_refl _
  · have l1 := hl x 0 hx z0
    rw [rsD_x0 a b p x1] at l1
    have l2 := hl 0 x z0 hx
    rw [rsD_0x a b p x1] at l2
    by_cases ci : i = x
    · subst ci
      by_cases cj : j = i
      · subst cj; rw [rsP_xx, hs.one j hj]; exact Int.le_refl _
      · rw [rsP_x a b p cj]
        have l3 := hl 0 j z0 hj
        rw [rsD_o a b p (by omega) (by omega), frP_o p (by omega) cj] at l3
        exact Int.le_trans (hs.t hi hj z0) (pl_mono (hs.F hi z0) (hs.F z0 hj) fa (h.cl.F z0 hj) (by omega) l3)
    · by_cases cj : j = x
      · subst cj
        rw [rsP_c a b p ci]
        have l3 := hl i 0 hi z0
        rw [rsD_o a b p (by omega) (by omega), frP_o p ci (by omega)] at l3
        exact Int.le_trans (hs.t hi hj z0) (pl_mono (hs.F hi z0) (hs.F z0 hj) (h.cl.F hi z0) fb l3 (by omega))
      · have l3 := hl i j hi hj
        rw [rsD_o a b p (by omega) (by omega), frP_o p ci cj] at l3
        rw [rsP_o a b p ci cj]
        exact l3
/-! ### Unset -/
end Go.Proofs.Ytjanibholjimkaa
