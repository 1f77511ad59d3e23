/-
  What becomes of closed forms, in numbers: Up, Down, Free, Reset.
-/
import Derived.Test.YtjanibholjimkaaQ21
import Derived.Test.YtjanibholjimkaaQ24
namespace Go.Proofs.Ytjanibholjimkaa
open Go.RowKit
set_option linter.unusedVariables false
set_option maxRecDepth 100000
theorem narAll_of {n : Nat} {p : Mat} : ∀ m, (∀ k, k < m → narOk (flat n p k) = true) → narAll n p m = true
  | 0, _ => rfl
  | m + 1, h => by simp only [narAll, narAll_of m fun k hk => h k (by omega), h m (by omega), Bool.and_self]
/-- Which closed matrix a matrix makes: the greatest below it. -/
theorem close_is {n : Nat} {M q : Mat} (hn : n ≤ 8) (O : Ok n M) (hq : Cl n q) (hl : Le n q M) (hg : ∀ p, Cl n p → Le n p M → Le n p q) : ∃ p, closeR n M = some p ∧ ∀ i j, i ≤ n → j ≤ n → p i j = q i j := by
  obtain ⟨p, h1, h2⟩ := close_above hn hq O hl
  have R := close_rounds hn O.fin O.diag h1
  exact ⟨p, h1, fun i j hi hj => Int.le_antisymm (hg p (R.cl hn) R.le i j hi hj) (h2 i j hi hj)⟩
theorem zone_is {n m : Nat} {M q : Mat} (hn : n ≤ 8) (hm : m = (n + 1) * (n + 1)) (O : Ok n M) (hq : Cl n q) (hl : Le n q M) (hg : ∀ p, Cl n p → Le n p M → Le n p q) : zoneR n M = if narAll n q m = true then some (cellsUpto n q m) else none := by
  obtain ⟨p, h1, eq⟩ := close_is hn O hq hl hg
  rw [hm, ← narAll_congr eq _ (Nat.le_refl _), ← cellsUpto_congr eq _ (Nat.le_refl _)]
  simp only [zoneR, h1]
theorem full_mk {n m : Nat} {p : Mat} (hm : m = (n + 1) * (n + 1)) (cl : Cl n p) (low : ∀ j, j ≤ n → p 0 j ≤ 1) (nar : ∀ i j, i ≤ n → j ≤ n → narOk (p i j) = true) : FullC n m p (cellsUpto n p m) :=
  ⟨cl, low, narAll_of m fun k hk => by
    rw [hm] at hk
    exact nar _ _ (by have := Nat.div_lt_of_lt_mul hk; omega) (by have := Nat.mod_lt k (show 0 < n + 1 by omega); omega), rfl⟩
/-- A draft reads as a matrix. -/
structure Rd (n : Nat) (M p : Mat) : Prop where
  right : RightM n M
  val : ∀ i j, i ≤ n → j ≤ n → tgV (startV i j) (M i j) = p i j
theorem Rd.drf {n m : Nat} {M p : Mat} (h : Rd n M p) (hm : m = (n + 1) * (n + 1)) {i j : Nat} (hi : i ≤ n) (hj : j ≤ n) : Go.Proofs.Ytjanibholjimkaa.drf n m (rowsL n M (n + 1)) i j = p i j := by
  rw [pm_at n m M hm hi hj, h.val i j hi hj]
theorem Rd.ok {n m : Nat} {M p : Mat} (h : Rd n M p) (hm : m = (n + 1) * (n + 1)) : Ok n (Go.Proofs.Ytjanibholjimkaa.drf n m (rowsL n M (n + 1))) := drf_ok n m _ hm (right_rows hm h.right)
/-- Which zone a draft makes. -/
theorem Rd.is {n m : Nat} {M p q : Mat} (h : Rd n M p) (hn : n ≤ 8) (hm : m = (n + 1) * (n + 1)) (hq : Cl n q) (hl : Le n q p) (hg : ∀ s, Cl n s → Le n s p → Le n s q) : zoneR n (Go.Proofs.Ytjanibholjimkaa.drf n m (rowsL n M (n + 1))) = if narAll n q m = true then some (cellsUpto n q m) else none :=
  zone_is hn hm (h.ok hm) hq (fun i j hi hj => by rw [h.drf hm hi hj]; exact hl i j hi hj) fun s hs hsl => hg s hs fun i j hi hj => by rw [← h.drf hm hi hj]; exact hsl i j hi hj
theorem Rd.self {n m : Nat} {M p : Mat} (h : Rd n M p) (hn : n ≤ 8) (hm : m = (n + 1) * (n + 1)) (hq : Cl n p) : zoneR n (Go.Proofs.Ytjanibholjimkaa.drf n m (rowsL n M (n + 1))) = if narAll n p m = true then some (cellsUpto n p m) else none :=
  h.is hn hm hq (fun i j _ _ => Int.le_refl _) fun s _ hs => hs
theorem FullC.rd {n m : Nat} {p : Mat} {c : Row} (h : FullC n m p c) (hm : m = (n + 1) * (n + 1)) : Rd n (Go.Proofs.Ytjanibholjimkaa.oR n c m) p := ⟨h.rightM hm, fun i j hi hj => h.pm hm hi hj⟩
theorem Cl.F {n : Nat} {p : Mat} (h : Cl n p) {i j : Nat} (hi : i ≤ n) (hj : j ≤ n) : F (p i j) := (h.fin i j hi hj).mono (by decide)
theorem Cl.t {n : Nat} {p : Mat} (h : Cl n p) {i j k : Nat} (hi : i ≤ n) (hj : j ≤ n) (hk : k ≤ n) : p i j ≤ pl (p i k) (p k j) := h.tri k (by omega) i j hi hj
theorem pl_opn (a : Int) : pl a opn = opn := by unfold pl; rw [if_pos (.inr rfl)]
theorem opn_pl (a : Int) : pl opn a = opn := by unfold pl; rw [if_pos (.inl rfl)]
theorem F_opn {x : Int} (h : F x) : x ≤ opn := by
  have ho := opn_val
  unfold F Fin' at h
  omega
theorem F1 : F (1 : Int) := .inr ⟨by decide, by decide⟩
/-! ### Up -/
def upP (p : Mat) : Mat := fun i j => if j = 0 ∧ 1 ≤ i then opn else p i j
theorem upP_cl {n : Nat} {p : Mat} (h : Cl n p) : Cl n (upP p) := by
  refine ⟨fun i j hi hj => ?_, fun i hi => ?_, fun k hk i j hi hj => ?_⟩
  · unfold upP
    split
    · exact .inl rfl
    · exact h.fin i j hi hj
  · unfold upP
    rw [if_neg (by omega)]
    exact h.one i hi
  · have hk' : k ≤ n := by omega
    unfold upP
    by_cases c : j = 0 ∧ 1 ≤ i
    · rw [if_pos c]
      by_cases k0 : k = 0
      · rw [if_pos (show k = 0 ∧ 1 ≤ i by omega), opn_pl]; exact Int.le_refl _
      · rw [if_pos (show j = 0 ∧ 1 ≤ k by omega), pl_opn]; exact Int.le_refl _
    · rw [if_neg c]
      by_cases c1 : k = 0 ∧ 1 ≤ i
      · rw [if_pos c1, opn_pl]; exact F_opn (h.F hi hj)
      · rw [if_neg c1]
        by_cases c2 : j = 0 ∧ 1 ≤ k
        · rw [if_pos c2, pl_opn]; exact F_opn (h.F hi hj)
        · rw [if_neg c2]; exact h.t hi hj hk'
theorem upP_full {n m : Nat} {p : Mat} {c : Row} (hm : m = (n + 1) * (n + 1)) (h : FullC n m p c) : FullC n m (upP p) (cellsUpto n (upP p) m) := by
  refine full_mk hm (upP_cl h.cl) (fun j hj => ?_) (fun i j hi hj => ?_)
  · unfold upP
    rw [if_neg (by omega)]
    exact h.low j hj
  · unfold upP
    split
    · rfl
    · exact h.ok hm hi hj
theorem upP_rd {n m : Nat} {p : Mat} {c : Row} (hm : m = (n + 1) * (n + 1)) (h : FullC n m p c) : Rd n (upM (n + 1) (oR n c m)) (upP p) := by
  refine ⟨fun i j hi hj => ?_, fun i j hi hj => ?_⟩
  · unfold upM
    split
    · exact .inl rfl
    · exact h.rightM hm i j hi hj
  · unfold upM upP
    by_cases q : j = 0 ∧ 1 ≤ i
    · rw [if_pos ⟨q.1, q.2, by omega⟩, if_pos q]
      have : startV i j = opn := by unfold startV; rw [if_pos (by omega)]; rfl
      rw [this]
      rfl
    · rw [if_neg (by omega), if_neg q, h.pm hm hi hj]
theorem up_is {n m : Nat} {p : Mat} {c : Row} (hn : n ≤ 8) (hm : m = (n + 1) * (n + 1)) (h : FullC n m p c) : zoneR n (drf n m (rowsL n (upM (n + 1) (oR n c m)) (n + 1))) = some (cellsUpto n (upP p) m) := by
  rw [(upP_rd hm h).self hn hm (upP_cl h.cl), if_pos (upP_full hm h).nar]
/-! ### Down -/
theorem narOk_of {x : Int} (h : -536870912 ≤ x) (h' : x ≤ 536870913) : narOk x = true := by
  unfold narOk
  rw [show decide (x < -536870912 ∨ 536870913 < x) = false from decide_eq_false (by omega)]
  simp
/-! ### Free -/
def frP (x : Nat) (p : Mat) : Mat := fun i j => if i = x then (if j = x then 1 else opn) else if j = x then p i 0 else p i j
theorem frP_x (x j : Nat) (p : Mat) : frP x p x j = if j = x then 1 else opn := by unfold frP; rw [if_pos rfl]
theorem frP_c {x i : Nat} (p : Mat) (h : ¬ i = x) : frP x p i x = p i 0 := by unfold frP; rw [if_neg h, if_pos rfl]
theorem frP_o {x i j : Nat} (p : Mat) (h : ¬ i = x) (h' : ¬ j = x) : frP x p i j = p i j := by unfold frP; rw [if_neg h, if_neg h']
theorem freeK_at {x : Nat} {r : Mat} (x1 : 1 ≤ x) : ∀ K i j, freeK x K r i j = if i = x then (if j < K then 2147483647 else r i j) else if j = x then (if i < K then r i 0 else r i j) else r i j
  | 0, i, j => by
    show r i j = _
    split
    · rw [if_neg (by omega)]
    · split
      · rw [if_neg (by omega)]
      · rfl
  | K + 1, i, j => by
    have ih := freeK_at (r := r) x1 K
    show upd (upd (freeK x K r) x K 2147483647) K x (upd (freeK x K r) x K 2147483647 K 0) i j = _
    unfold upd
    by_cases c1 : i = K ∧ j = x
    · obtain ⟨rfl, rfl⟩ := c1
      rw [if_pos ⟨rfl, rfl⟩]
      by_cases e : i = j
      · subst e
        rw [if_neg (by omega), ih, if_pos rfl, if_pos (by omega), if_pos rfl, if_pos (by omega)]
      · rw [if_neg (by omega), ih, if_neg e, if_neg (by omega), if_neg e, if_pos rfl, if_pos (by omega)]
    · rw [if_neg c1]
      by_cases c2 : i = x ∧ j = K
      · obtain ⟨rfl, rfl⟩ := c2
        rw [if_pos ⟨rfl, rfl⟩, if_pos rfl, if_pos (by omega)]
      · rw [if_neg c2, ih]
        by_cases c3 : i = x
        · rw [if_pos c3, if_pos c3]
          congr 1
          apply propext
          omega
        · rw [if_neg c3, if_neg c3]
          by_cases c4 : j = x
          · rw [if_pos c4, if_pos c4]
            congr 1
            apply propext
            omega
          · rw [if_neg c4, if_neg c4]
theorem startV_c {i x : Nat} (h : ¬ i = x) : startV i x = startV i 0 := by
  unfold startV
  congr 1
  apply propext
  omega
theorem Rd.free {n x : Nat} {M p : Mat} (h : Rd n M p) (x1 : 1 ≤ x) : Rd n (freeK x (n + 1) M) (frP x p) := by
  refine ⟨fun i j hi hj => ?_, fun i j hi hj => ?_⟩
  · rw [freeK_at x1]
    split
    · rw [if_pos (by omega)]
      exact .inl rfl
    · split
      · rw [if_pos (by omega)]
        exact h.right i 0 hi (by omega)
      · exact h.right i j hi hj
  · rw [freeK_at x1]
    unfold frP
    by_cases ci : i = x
    · rw [if_pos ci, if_pos ci, if_pos (by omega)]
      rw [show tgV (startV i j) 2147483647 = startV i j by unfold tgV; rw [if_pos rfl]]
      unfold startV
      by_cases cj : j = x
      · rw [if_pos cj, if_neg (by omega)]
      · rw [if_neg cj, if_pos (by omega)]
        rfl
    · rw [if_neg ci, if_neg ci]
      by_cases cj : j = x
      · subst cj
        rw [if_pos rfl, if_pos rfl, if_pos (by omega), startV_c ci]
        exact h.val i 0 hi (by omega)
      · rw [if_neg cj, if_neg cj]
        exact h.val i j hi hj
end Go.Proofs.Ytjanibholjimkaa
