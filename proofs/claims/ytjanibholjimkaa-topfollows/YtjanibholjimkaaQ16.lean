/-
  A closed form with one bound more: it is not empty, if the bound does not go against the opposite one.
-/
import Derived.Test.YtjanibholjimkaaQ14
import Derived.Test.YtjanibholjimkaaQ15
namespace Go.Proofs.Ytjanibholjimkaa
open Go.RowKit
set_option linter.unusedVariables false
set_option maxRecDepth 100000
theorem rounds_above {n : Nat} {r q : Mat} (hn : n ≤ 8) (hf : FinM n (Kb 0) r) (ho : One n r) (fq : FinM n 144115188075855872 q) (oq : One n q) (tq : Tri n (n + 1) q) (le : ∀ i j, i ≤ n → j ≤ n → q i j ≤ r i j) (c : Nat) (hc : c ≤ n + 1) : ∃ p, clAll n c r = some p ∧ ∀ i j, i ≤ n → j ≤ n → q i j ≤ p i j := by
  induction c with
  | zero => exact ⟨r, rfl, le⟩
  | succ c ih =>
    obtain ⟨p, ep, lp⟩ := ih (by omega)
    have R := rounds_of hn hf ho c (by omega) p ep
    have bd := Kb_bd c (by omega)
    have hs := still_of (k := c) (by omega) R.fin R.one (by omega)
    have ff : ∀ i j, i ≤ n → j ≤ n → F (p i j) := fun i j hi hj => (R.fin i j hi hj).mono (by omega)
    have fg : ∀ i j, i ≤ n → j ≤ n → F (q i j) := fun i j hi hj => (fq i j hi hj).mono (by decide)
    have key : ∀ i j, i ≤ n → j ≤ n → q i j ≤ pl (p i c) (p c j) := fun i j hi hj => Int.le_trans (tq c (by omega) i j hi hj) (pl_mono (fg i c hi (by omega)) (fg c j (by omega) hj) (ff i c hi (by omega)) (ff c j (by omega) hj) (lp i c hi (by omega)) (lp c j (by omega) hj))
    rcases all_mid hs R.one (by omega) (n + 1) (Nat.le_refl _) with e2 | ⟨e2, i, hi, h⟩
    · refine ⟨midR n c p (n + 1) 0, by simp [clAll, ep, e2], fun i j hi hj => ?_⟩
      rw [mid_all]
      unfold tgt
      rw [if_pos ⟨hi, hj⟩, dplus_pl (R.fin i c hi (by omega)) (R.fin c j (by omega) hj) (by omega)]
      have := key i j hi hj
      have := lp i j hi hj
      omega
    · exfalso
      rw [dplus_pl (R.fin i c hi (by omega)) (R.fin c i (by omega) hi) (by omega)] at h
      have := key i i hi hi
      rw [oq i hi] at this
      omega
/-- With one bound more. -/
def withB (p : Mat) (i j : Nat) (o : Int) : Mat := fun a b => min (p a b) (pl (pl (p a j) o) (p i b))
theorem pl_fin' {a b K L : Int} (ha : Fin' K a) (hb : Fin' L b) (k0 : 0 ≤ K) (l0 : 0 ≤ L) : Fin' (K + L + 1) (pl a b) := by
  have := pl_cases a b
  unfold Fin' at *
  omega
theorem pl_mono1 {a b c : Int} (ha : F a) (hb : F b) (hc : F c) (h : a ≤ b) : pl a c ≤ pl b c := pl_mono ha hc hb hc h (Int.le_refl _)
theorem pl_mono2 {a b c : Int} (ha : F a) (hb : F b) (hc : F c) (h : a ≤ b) : pl c a ≤ pl c b := pl_mono hc ha hc hb (Int.le_refl _) h
theorem one_pl {a : Int} (h : F a) : pl 1 a = a := by rw [pl_comm]; exact pl_one h
theorem fP {n : Nat} {p : Mat} (hf : FinM n 1073741824 p) (a b : Nat) (ha : a ≤ n) (hb : b ≤ n) : Fin' 1073741824 (p a b) := hf a b ha hb
theorem withB_one {n : Nat} {p : Mat} {i j : Nat} {o : Int} (hf : FinM n 1073741824 p) (ho : One n p) (ht : Tri n (n + 1) p) (hi : i ≤ n) (hj : j ≤ n) (fo : Fin' 1073741824 o) (h : 1 ≤ pl (p i j) o) : One n (withB p i j o) := by
  intro a ha
  unfold withB
  have f1 := fP hf a j ha hj
  have f2 := fP hf i a hi ha
  have f3 := fP hf i j hi hj
  have F1 : F (p a j) := f1.mono (by decide)
  have F2 : F (p i a) := f2.mono (by decide)
  have F3 : F (p i j) := f3.mono (by decide)
  have Fo : F o := fo.mono (by decide)
  have t := ht a (by omega) i j hi hj
  have e : pl (pl (p a j) o) (p i a) = pl (pl (p i a) (p a j)) o := by
    rw [pl_comm (pl (p a j) o) (p i a), pl_assoc F2 F1 Fo]
  rw [e, ho a ha]
  have F4 : F (pl (p i a) (p a j)) := (pl_fin' f2 f1 (by decide) (by decide)).mono (by decide)
  have := pl_mono1 F3 F4 Fo t
  omega
theorem withB_fin {n : Nat} {p : Mat} {i j : Nat} {o : Int} (hf : FinM n 1073741824 p) (hi : i ≤ n) (hj : j ≤ n) (fo : Fin' 1073741824 o) : FinM n 144115188075855872 (withB p i j o) := by
  intro a b ha hb
  unfold withB
  have f0 := (fP hf a b ha hb).mono (show (1073741824 : Int) ≤ 144115188075855872 by decide)
  have f1 := (pl_fin' (pl_fin' (fP hf a j ha hj) fo (by decide) (by decide)) (fP hf i b hi hb) (by decide) (by decide)).mono (show (1073741824 + 1073741824 + 1 + 1073741824 + 1 : Int) ≤ 144115188075855872 by decide)
  by_cases q : p a b ≤ pl (pl (p a j) o) (p i b)
  · rw [show min (p a b) (pl (pl (p a j) o) (p i b)) = p a b by omega]; exact f0
  · rw [show min (p a b) (pl (pl (p a j) o) (p i b)) = pl (pl (p a j) o) (p i b) by omega]; exact f1
theorem withB_tri {n : Nat} {p : Mat} {i j : Nat} {o : Int} (hf : FinM n 1073741824 p) (ho : One n p) (ht : Tri n (n + 1) p) (hi : i ≤ n) (hj : j ≤ n) (fo : Fin' 1073741824 o) (h : 1 ≤ pl (p i j) o) : Tri n (n + 1) (withB p i j o) := by
  intro c hc a b ha hb
  have cn : c ≤ n := by omega
  have ff : ∀ x y, x ≤ n → y ≤ n → F (p x y) := fun x y hx hy => (fP hf x y hx hy).mono (by decide)
  have Fo : F o := fo.mono (by decide)
  have fj : ∀ x, x ≤ n → Fin' 2147483649 (pl (p x j) o) := fun x hx => (pl_fin' (fP hf x j hx hj) fo (by decide) (by decide)).mono (by decide)
  have Fj : ∀ x, x ≤ n → F (pl (p x j) o) := fun x hx => (fj x hx).mono (by decide)
  have fk : ∀ x y, x ≤ n → y ≤ n → Fin' 3221225474 (pl (pl (p x j) o) (p i y)) := fun x y hx hy => (pl_fin' (fj x hx) (fP hf i y hi hy) (by decide) (by decide)).mono (by decide)
  have Fk : ∀ x y, x ≤ n → y ≤ n → F (pl (pl (p x j) o) (p i y)) := fun x y hx hy => (fk x y hx hy).mono (by decide)
  have fp : ∀ x y z u, x ≤ n → y ≤ n → z ≤ n → u ≤ n → Fin' 2147483649 (pl (p x y) (p z u)) := fun x y z u h1 h2 h3 h4 => (pl_fin' (fP hf x y h1 h2) (fP hf z u h3 h4) (by decide) (by decide)).mono (by decide)
  unfold withB
  have t1 := ht c hc a b ha hb
  have t2 := ht c hc a j ha hj
  have t3 := ht c hc i b hi hb
  have t4 := ht c hc i j hi hj
  by_cases q1 : p a c ≤ pl (pl (p a j) o) (p i c)
  · rw [show min (p a c) (pl (pl (p a j) o) (p i c)) = p a c by omega]
    by_cases q2 : p c b ≤ pl (pl (p c j) o) (p i b)
    · rw [show min (p c b) (pl (pl (p c j) o) (p i b)) = p c b by omega]
      omega
    · rw [show min (p c b) (pl (pl (p c j) o) (p i b)) = pl (pl (p c j) o) (p i b) by omega]
      have e : pl (p a c) (pl (pl (p c j) o) (p i b)) = pl (pl (pl (p a c) (p c j)) o) (p i b) := by
        rw [← pl_assoc (ff a c ha cn) (Fj c cn) (ff i b hi hb), ← pl_assoc (ff a c ha cn) (ff c j cn hj) Fo]
      rw [e]
      have m1 := pl_mono1 (ff a j ha hj) ((fp a c c j ha cn cn hj).mono (by decide)) Fo t2
      have m2 := pl_mono1 (Fj a ha) ((pl_fin' (fp a c c j ha cn cn hj) fo (by decide) (by decide)).mono (by decide)) (ff i b hi hb) m1
      omega
  · rw [show min (p a c) (pl (pl (p a j) o) (p i c)) = pl (pl (p a j) o) (p i c) by omega]
    by_cases q2 : p c b ≤ pl (pl (p c j) o) (p i b)
    · rw [show min (p c b) (pl (pl (p c j) o) (p i b)) = p c b by omega]
      rw [pl_assoc (Fj a ha) (ff i c hi cn) (ff c b cn hb)]
      have m1 := pl_mono2 (ff i b hi hb) ((fp i c c b hi cn cn hb).mono (by decide)) (Fj a ha) t3
      omega
    · rw [show min (p c b) (pl (pl (p c j) o) (p i b)) = pl (pl (p c j) o) (p i b) by omega]
      have e : pl (pl (pl (p a j) o) (p i c)) (pl (pl (p c j) o) (p i b)) = pl (pl (p a j) o) (pl (pl (pl (p i c) (p c j)) o) (p i b)) := by
        rw [pl_assoc (Fj a ha) (ff i c hi cn) (Fk c b cn hb), ← pl_assoc (ff i c hi cn) (Fj c cn) (ff i b hi hb), ← pl_assoc (ff i c hi cn) (ff c j cn hj) Fo]
      rw [e]
      have g1 : Fin' 2147483649 (pl (p i c) (p c j)) := fp i c c j hi cn cn hj
      have m1 := pl_mono1 (ff i j hi hj) (g1.mono (by decide)) Fo t4
      have g2 : Fin' 3221225474 (pl (pl (p i c) (p c j)) o) := (pl_fin' g1 fo (by decide) (by decide)).mono (by decide)
      have m2 : 1 ≤ pl (pl (p i c) (p c j)) o := by omega
      have m3 := pl_mono1 (a := 1) (.inr (by decide)) (g2.mono (by decide)) (ff i b hi hb) m2
      rw [one_pl (ff i b hi hb)] at m3
      have g3 : Fin' 4294967299 (pl (pl (pl (p i c) (p c j)) o) (p i b)) := (pl_fin' g2 (fP hf i b hi hb) (by decide) (by decide)).mono (by decide)
      have m4 := pl_mono2 (ff i b hi hb) (g3.mono (by decide)) (Fj a ha) m3
      omega
/-- A bound more that does not go against the opposite one leaves a valuation. -/
theorem close_withB {n : Nat} {p r : Mat} {i j : Nat} {o : Int} (hn : n ≤ 8) (hf : FinM n 1073741824 p) (ho : One n p) (ht : Tri n (n + 1) p) (hi : i ≤ n) (hj : j ≤ n) (fo : Fin' 1073741824 o) (h : 1 ≤ pl (p i j) o)
    (fr : FinM n (Kb 0) r) (or : One n r) (hr : ∀ a b, a ≤ n → b ≤ n → r a b = if a = j ∧ b = i then min (p a b) o else p a b) : ∃ q, closeR n r = some q := by
  have le : ∀ a b, a ≤ n → b ≤ n → withB p i j o a b ≤ r a b := fun a b ha hb => by
    rw [hr a b ha hb]
    unfold withB
    split
    · rename_i e
      obtain ⟨rfl, rfl⟩ := e
      rw [ho a hj, ho b hi, one_pl (fo.mono (by decide)), pl_one (fo.mono (by decide))]
      omega
    · omega
  obtain ⟨q, e, _⟩ := rounds_above hn fr or (withB_fin hf hi hj fo) (withB_one hf ho ht hi hj fo h) (withB_tri hf ho ht hi hj fo h) le (n + 1) (Nat.le_refl _)
  refine ⟨q, ?_⟩
  unfold closeR
  rw [or.ok]
  exact e
end Go.Proofs.Ytjanibholjimkaa
