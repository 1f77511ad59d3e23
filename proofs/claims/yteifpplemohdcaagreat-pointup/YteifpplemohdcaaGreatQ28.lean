/-
  What becomes of closed forms, in numbers: Up, Down, Free, Reset.
-/
import Derived.Test.YteifpplemohdcaaGreatQ27
namespace Go.Proofs.YteifpplemohdcaaGreat
open Go.RowKit
set_option linter.unusedVariables false
set_option maxRecDepth 100000
/-- Which closed matrix a matrix makes: the greatest below it. -/
theorem close_is {n : Nat} {M q : Mat} (hn : n ≤ 8) (O : Ok n M) (hq : Cl n q) (hl : Le n q M) (hg : ∀ p, Cl n p → Le n p M → Le n p q) : ∃ p, closeR n M = some p ∧ ∀ i j, i ≤ n → j ≤ n → p i j = q i j := by
  obtain ⟨p, h1, h2⟩ := close_above hn hq O hl
  have R := close_rounds hn O.fin O.diag h1
  exact ⟨p, h1, fun i j hi hj => Int.le_antisymm (hg p (R.cl hn) R.le i j hi hj) (h2 i j hi hj)⟩
theorem zone_is {n m : Nat} {M q : Mat} (hn : n ≤ 8) (hm : m = (n + 1) * (n + 1)) (O : Ok n M) (hq : Cl n q) (hl : Le n q M) (hg : ∀ p, Cl n p → Le n p M → Le n p q) : zoneR n M = if narAll n q m = true then some (cellsUpto n q m) else none := by
  obtain ⟨p, h1, eq⟩ := close_is hn O hq hl hg
  rw [hm, ← narAll_congr eq _ (Nat.le_refl _), ← cellsUpto_congr eq _ (Nat.le_refl _)]
  simp only [zoneR, h1]
theorem full_mk {n m : Nat} {p : Mat} (hm : m = (n + 1) * (n + 1)) (cl : Cl n p) (low : ∀ j, j ≤ n → p 0 j ≤ 1) (nar : ∀ i j, i ≤ n → j ≤ n → narOk (p i j) = true) : FullC n m p (cellsUpto n p m) :=
  ⟨cl, low, narAll_of m fun k hk => by
    rw [hm] at hk
    exact nar _ _ (by have := Nat.div_lt_of_lt_mul hk; omega) (by have := Nat.mod_lt k (show 0 < n + 1 by omega); omega), rfl⟩
theorem full_mk' {n m : Nat} {p : Mat} (cl : Cl n p) (low : ∀ j, j ≤ n → p 0 j ≤ 1) (nar : narAll n p m = true) : FullC n m p (cellsUpto n p m) := ⟨cl, low, nar, rfl⟩
/-- A draft reads as a matrix. -/
structure Rd (n : Nat) (M p : Mat) : Prop where
  right : RightM n M
  val : ∀ i j, i ≤ n → j ≤ n → tgV (startV i j) (M i j) = p i j
theorem Rd.drf {n m : Nat} {M p : Mat} (h : Rd n M p) (hm : m = (n + 1) * (n + 1)) {i j : Nat} (hi : i ≤ n) (hj : j ≤ n) : Go.Proofs.YteifpplemohdcaaGreat.drf n m (rowsL n M (n + 1)) i j = p i j := by
  rw [pm_at n m M hm hi hj, h.val i j hi hj]
theorem Rd.ok {n m : Nat} {M p : Mat} (h : Rd n M p) (hm : m = (n + 1) * (n + 1)) : Ok n (Go.Proofs.YteifpplemohdcaaGreat.drf n m (rowsL n M (n + 1))) := drf_ok n m _ hm (right_rows hm h.right)
/-- Which zone a draft makes. -/
theorem Rd.is {n m : Nat} {M p q : Mat} (h : Rd n M p) (hn : n ≤ 8) (hm : m = (n + 1) * (n + 1)) (hq : Cl n q) (hl : Le n q p) (hg : ∀ s, Cl n s → Le n s p → Le n s q) : zoneR n (Go.Proofs.YteifpplemohdcaaGreat.drf n m (rowsL n M (n + 1))) = if narAll n q m = true then some (cellsUpto n q m) else none :=
  zone_is hn hm (h.ok hm) hq (fun i j hi hj => by rw [h.drf hm hi hj]; exact hl i j hi hj) fun s hs hsl => hg s hs fun i j hi hj => by rw [← h.drf hm hi hj]; exact hsl i j hi hj
theorem Rd.self {n m : Nat} {M p : Mat} (h : Rd n M p) (hn : n ≤ 8) (hm : m = (n + 1) * (n + 1)) (hq : Cl n p) : zoneR n (Go.Proofs.YteifpplemohdcaaGreat.drf n m (rowsL n M (n + 1))) = if narAll n p m = true then some (cellsUpto n p m) else none :=
  h.is hn hm hq (fun i j _ _ => Int.le_refl _) fun s _ hs => hs
theorem FullC.rd {n m : Nat} {p : Mat} {c : Row} (h : FullC n m p c) (hm : m = (n + 1) * (n + 1)) : Rd n (Go.Proofs.YteifpplemohdcaaGreat.oR n c m) p := ⟨h.rightM hm, fun i j hi hj => h.pm hm hi hj⟩
theorem Cl.F {n : Nat} {p : Mat} (h : Cl n p) {i j : Nat} (hi : i ≤ n) (hj : j ≤ n) : F (p i j) := (h.fin i j hi hj).mono (by decide)
theorem Cl.t {n : Nat} {p : Mat} (h : Cl n p) {i j k : Nat} (hi : i ≤ n) (hj : j ≤ n) (hk : k ≤ n) : p i j ≤ pl (p i k) (p k j) := h.tri k (by omega) i j hi hj
theorem pl_opn (a : Int) : pl a opn = opn := by unfold pl; rw [if_pos (.inr rfl)]
theorem opn_pl (a : Int) : pl opn a = opn := by unfold pl; rw [if_pos (.inl rfl)]
theorem F_opn {x : Int} (h : F x) : x ≤ opn := by
  have ho := opn_val
  unfold F Fin' at h
  omega
theorem F1 : F (1 : Int) := .inr ⟨by decide, by decide⟩
/-! ### Up -/
def upP (p : Mat) : Mat := fun i j => if j = 0 ∧ 1 ≤ i then opn else p i j
theorem upP_cl {n : Nat} {p : Mat} (h : Cl n p) : Cl n (upP p) := by
  refine ⟨fun i j hi hj => ?_, fun i hi => ?_, fun k hk i j hi hj => ?_⟩
  · unfold upP
    split
    · exact .inl rfl
    · exact h.fin i j hi hj
  · unfold upP
    rw [if_neg (by omega)]
    exact h.one i hi
  · have hk' : k ≤ n := by omega
    unfold upP
    by_cases c : j = 0 ∧ 1 ≤ i
    · rw [if_pos c]
      by_cases k0 : k = 0
      · rw [if_pos (show k = 0 ∧ 1 ≤ i by omega), opn_pl]; exact Int.le_refl _
      · rw [if_pos (show j = 0 ∧ 1 ≤ k by omega), pl_opn]; exact Int.le_refl _
    · rw [if_neg c]
      by_cases c1 : k = 0 ∧ 1 ≤ i
      · rw [if_pos c1, opn_pl]; exact F_opn (h.F hi hj)
      · rw [if_neg c1]
        by_cases c2 : j = 0 ∧ 1 ≤ k
        · rw [if_pos c2, pl_opn]; exact F_opn (h.F hi hj)
        · rw [if_neg c2]; exact h.t hi hj hk'
theorem upP_full {n m : Nat} {p : Mat} {c : Row} (hm : m = (n + 1) * (n + 1)) (h : FullC n m p c) : FullC n m (upP p) (cellsUpto n (upP p) m) := by
  refine full_mk hm (upP_cl h.cl) (fun j hj => ?_) (fun i j hi hj => ?_)
  · unfold upP
    rw [if_neg (by omega)]
    exact h.low j hj
  · unfold upP
    split
    · rfl
    · exact h.ok hm hi hj
theorem upP_rd {n m : Nat} {p : Mat} {c : Row} (hm : m = (n + 1) * (n + 1)) (h : FullC n m p c) : Rd n (upM (n + 1) (oR n c m)) (upP p) := by
  refine ⟨fun i j hi hj => ?_, fun i j hi hj => ?_⟩
  · unfold upM
    split
    · exact .inl rfl
    · exact h.rightM hm i j hi hj
  · unfold upM upP
    by_cases q : j = 0 ∧ 1 ≤ i
    · rw [if_pos ⟨q.1, q.2, by omega⟩, if_pos q]
      have : startV i j = opn := by unfold startV; rw [if_pos (by omega)]; rfl
      rw [this]
      rfl
    · rw [if_neg (by omega), if_neg q, h.pm hm hi hj]
theorem up_is {n m : Nat} {p : Mat} {c : Row} (hn : n ≤ 8) (hm : m = (n + 1) * (n + 1)) (h : FullC n m p c) : zoneR n (drf n m (rowsL n (upM (n + 1) (oR n c m)) (n + 1))) = some (cellsUpto n (upP p) m) := by
  rw [(upP_rd hm h).self hn hm (upP_cl h.cl), if_pos (upP_full hm h).nar]
theorem upP_le {n : Nat} {p : Mat} (h : Cl n p) : Le n p (upP p) := fun i j hi hj => by
  unfold upP
  split
  · exact F_opn (h.F hi hj)
  · exact Int.le_refl _
/-! ### Down -/
def dnD (p : Mat) : Mat := fun i j => if i = 0 ∧ 1 ≤ j then 1 else p i j
theorem dnD_rd {n m : Nat} {p : Mat} {c : Row} (hm : m = (n + 1) * (n + 1)) (h : FullC n m p c) : Rd n (downM (n + 1) (oR n c m)) (dnD p) := by
  refine ⟨fun i j hi hj => ?_, fun i j hi hj => ?_⟩
  · unfold downM
    split
    · exact .inr (by omega)
    · exact h.rightM hm i j hi hj
  · unfold downM dnD
    by_cases q : i = 0 ∧ 1 ≤ j
    · rw [if_pos ⟨q.1, q.2, by omega⟩, if_pos q]
      have : startV i j = 1 := by unfold startV; rw [if_neg (by omega)]
      rw [this]
      rfl
    · rw [if_neg (by omega), if_neg q, h.pm hm hi hj]
theorem narOk_of {x : Int} (h : -536870912 ≤ x) (h' : x ≤ 536870913) : narOk x = true := by
  unfold narOk
  rw [show decide (x < -536870912 ∨ 536870913 < x) = false from decide_eq_false (by omega)]
  simp
theorem FullC.fin0 {n m : Nat} {p : Mat} {c : Row} (h : FullC n m p c) (hm : m = (n + 1) * (n + 1)) {j : Nat} (hj : j ≤ n) : -536870912 ≤ p 0 j ∧ p 0 j ≤ 1 := by
  have l := h.low j hj
  have ho := opn_val
  rcases narOk_cases (h.ok hm (i := 0) (by omega) hj) with ⟨h1, -⟩ | ⟨-, -, h3, h4⟩
  · omega
  · exact ⟨h3, l⟩
theorem down_is {n m : Nat} {p : Mat} {c : Row} (hn : n ≤ 8) (hm : m = (n + 1) * (n + 1)) (h : FullC n m p c) : ∃ q, FullC n m q (cellsUpto n q m) ∧ zoneR n (drf n m (rowsL n (downM (n + 1) (oR n c m)) (n + 1))) = some (cellsUpto n q m) ∧ Le n p q ∧ ∀ i j, i ≤ n → j ≤ n → 1 ≤ i → q i j = p i j := by
  have D := dnD_rd hm h
  have O := D.ok hm
  have pl : Le n p (drf n m (rowsL n (downM (n + 1) (oR n c m)) (n + 1))) := fun i j hi hj => by
    rw [D.drf hm hi hj]
    unfold dnD
    split
    · rename_i e
      rw [e.1]
      exact h.low j hj
    · exact Int.le_refl _
  obtain ⟨q, h1, h2⟩ := close_above hn h.cl O pl
  have R := close_rounds hn O.fin O.diag h1
  have le : ∀ i j, i ≤ n → j ≤ n → q i j ≤ dnD p i j := fun i j hi hj => by
    have := R.le i j hi hj
    rw [D.drf hm hi hj] at this
    exact this
  have e : ∀ i j, i ≤ n → j ≤ n → 1 ≤ i → q i j = p i j := fun i j hi hj i1 => by
    have a := le i j hi hj
    unfold dnD at a
    rw [if_neg (by omega)] at a
    exact Int.le_antisymm a (h2 i j hi hj)
  have lo : ∀ j, j ≤ n → q 0 j ≤ 1 := fun j hj => by
    have a := le 0 j (by omega) hj
    unfold dnD at a
    split at a
    · exact a
    · exact Int.le_trans a (h.low j hj)
  have F := full_mk hm (R.cl hn) lo fun i j hi hj => by
    by_cases i0 : i = 0
    · subst i0
      have := (h.fin0 hm hj).1
      have := h2 0 j hi hj
      have := lo j hj
      exact narOk_of (by omega) (by omega)
    · rw [e i j hi hj (by omega)]
      exact h.ok hm hi hj
  refine ⟨q, F, ?_, h2, e⟩
  have na := F.nar
  rw [hm] at na ⊢
  rw [hm] at h1
  simp only [zoneR, h1, na, if_true]
/-! ### Free -/
def frP (x : Nat) (p : Mat) : Mat := fun i j => if i = x then (if j = x then 1 else opn) else if j = x then p i 0 else p i j
theorem frP_x (x j : Nat) (p : Mat) : frP x p x j = if j = x then 1 else opn := by unfold frP; rw [if_pos rfl]
theorem frP_c {x i : Nat} (p : Mat) (h : ¬ i = x) : frP x p i x = p i 0 := by unfold frP; rw [if_neg h, if_pos rfl]
theorem frP_o {x i j : Nat} (p : Mat) (h : ¬ i = x) (h' : ¬ j = x) : frP x p i j = p i j := by unfold frP; rw [if_neg h, if_neg h']
theorem frP_cl {n x : Nat} {p : Mat} (h : Cl n p) : Cl n (frP x p) := by
  refine ⟨fun i j hi hj => ?_, fun i hi => ?_, fun k hk i j hi hj => ?_⟩
  · unfold frP
    split
    · split
      · exact .inr ⟨by omega, by omega⟩
      · exact .inl rfl
    · split
      · exact h.fin i 0 hi (by omega)
      · exact h.fin i j hi hj
  · unfold frP
    by_cases c : i = x
    · rw [if_pos c, if_pos c]
    · rw [if_neg c, if_neg c]
      exact h.one i hi
  · have hk' : k ≤ n := by omega
    by_cases ci : i = x
    · subst ci
      by_cases ck : k = i
      · subst ck
        rw [frP_x k k, if_pos rfl]
        rw [one_pl (by rw [frP_x]; split; exact F1; exact .inl rfl)]
        exact Int.le_refl _
      · rw [frP_x i k, if_neg ck, opn_pl, frP_x]
        split
        · decide
        · exact Int.le_refl _
    · by_cases ck : k = x
      · subst ck
        rw [frP_c p ci, frP_x]
        by_cases cj : j = k
        · subst cj
          rw [if_pos rfl, frP_c p ci, pl_one (h.F hi (by omega))]
          exact Int.le_refl _
        · rw [if_neg cj, pl_opn, frP_o p ci cj]
          exact F_opn (h.F hi hj)
      · rw [frP_o p ci ck]
        by_cases cj : j = x
        · subst cj
          rw [frP_c p ci, frP_c p ck]
          exact h.t hi (by omega) hk'
        · rw [frP_o p ci cj, frP_o p ck cj]
          exact h.t hi hj hk'
theorem frP_full {n m x : Nat} {p : Mat} {c : Row} (hm : m = (n + 1) * (n + 1)) (h : FullC n m p c) (x1 : 1 ≤ x) : FullC n m (frP x p) (cellsUpto n (frP x p) m) := by
  refine full_mk hm (frP_cl h.cl) (fun j hj => ?_) (fun i j hi hj => ?_)
  · by_cases cj : j = x
    · subst cj
      rw [frP_c p (by omega), h.cl.one 0 (by omega)]
      exact Int.le_refl _
    · rw [frP_o p (by omega) cj]
      exact h.low j hj
  · unfold frP
    split
    · split
      · rfl
      · rfl
    · split
      · exact h.ok hm hi (by omega)
      · exact h.ok hm hi hj
theorem freeK_at {x : Nat} {r : Mat} (x1 : 1 ≤ x) : ∀ K i j, freeK x K r i j = if i = x then (if j < K then 2147483647 else r i j) else if j = x then (if i < K then r i 0 else r i j) else r i j
  | 0, i, j => by
    show r i j = _
    split
    · rw [if_neg (by omega)]
    · split
      · rw [if_neg (by omega)]
      · rfl
  | K + 1, i, j => by
    have ih := freeK_at (r := r) x1 K
    show upd (upd (freeK x K r) x K 2147483647) K x (upd (freeK x K r) x K 2147483647 K 0) i j = _
    unfold upd
    by_cases c1 : i = K ∧ j = x
    · obtain ⟨rfl, rfl⟩ := c1
      rw [if_pos ⟨rfl, rfl⟩]
      by_cases e : i = j
      · subst e
        rw [if_neg (by omega), ih, if_pos rfl, if_pos (by omega), if_pos rfl, if_pos (by omega)]
      · rw [if_neg (by omega), ih, if_neg e, if_neg (by omega), if_neg e, if_pos rfl, if_pos (by omega)]
    · rw [if_neg c1]
      by_cases c2 : i = x ∧ j = K
      · obtain ⟨rfl, rfl⟩ := c2
        rw [if_pos ⟨rfl, rfl⟩, if_pos rfl, if_pos (by omega)]
      · rw [if_neg c2, ih]
        by_cases c3 : i = x
        · rw [if_pos c3, if_pos c3]
          congr 1
          apply propext
          omega
        · rw [if_neg c3, if_neg c3]
          by_cases c4 : j = x
          · rw [if_pos c4, if_pos c4]
            congr 1
            apply propext
            omega
          · rw [if_neg c4, if_neg c4]
theorem startV_c {i x : Nat} (h : ¬ i = x) : startV i x = startV i 0 := by
  unfold startV
  congr 1
  apply propext
  omega
theorem Rd.free {n x : Nat} {M p : Mat} (h : Rd n M p) (x1 : 1 ≤ x) : Rd n (freeK x (n + 1) M) (frP x p) := by
  refine ⟨fun i j hi hj => ?_, fun i j hi hj => ?_⟩
  · rw [freeK_at x1]
    split
    · rw [if_pos (by omega)]
      exact .inl rfl
    · split
      · rw [if_pos (by omega)]
        exact h.right i 0 hi (by omega)
      · exact h.right i j hi hj
  · rw [freeK_at x1]
    unfold frP
    by_cases ci : i = x
    · rw [if_pos ci, if_pos ci, if_pos (by omega)]
      rw [show tgV (startV i j) 2147483647 = startV i j by unfold tgV; rw [if_pos rfl]]
      unfold startV
      by_cases cj : j = x
      · rw [if_pos cj, if_neg (by omega)]
      · rw [if_neg cj, if_pos (by omega)]
        rfl
    · rw [if_neg ci, if_neg ci]
      by_cases cj : j = x
      · subst cj
        rw [if_pos rfl, if_pos rfl, if_pos (by omega), startV_c ci]
        exact h.val i 0 hi (by omega)
      · rw [if_neg cj, if_neg cj]
        exact h.val i j hi hj
theorem free_is {n m x : Nat} {p : Mat} {c : Row} (hn : n ≤ 8) (hm : m = (n + 1) * (n + 1)) (h : FullC n m p c) (x1 : 1 ≤ x) : zoneR n (drf n m (rowsL n (freeK x (n + 1) (oR n c m)) (n + 1))) = some (cellsUpto n (frP x p) m) := by
  rw [((h.rd hm).free x1).self hn hm (frP_cl h.cl), if_pos (frP_full hm h x1).nar]
theorem frP_le {n m x : Nat} {p : Mat} {c : Row} (h : FullC n m p c) (hx : x ≤ n) : Le n p (frP x p) := fun i j hi hj => by
  by_cases ci : i = x
  · subst ci
    rw [frP_x]
    split
    · rename_i e
      subst e
      rw [h.cl.one j hj]
      exact Int.le_refl _
    · exact F_opn (h.cl.F hi hj)
  · by_cases cj : j = x
    · subst cj
      rw [frP_c p ci]
      have t := h.cl.t hi hx (show 0 ≤ n by omega)
      have m1 := pl_mono (h.cl.F hi (show 0 ≤ n by omega)) (h.cl.F (show 0 ≤ n by omega) hx) (h.cl.F hi (show 0 ≤ n by omega)) F1 (Int.le_refl _) (h.low j hx)
      rw [pl_one (h.cl.F hi (by omega))] at m1
      omega
    · rw [frP_o p ci cj]
      exact Int.le_refl _
end Go.Proofs.YteifpplemohdcaaGreat

/-
  What becomes of closed forms, in numbers: Reset, Unset.
-/
namespace Go.Proofs.YteifpplemohdcaaGreat
open Go.RowKit
set_option linter.unusedVariables false
set_option maxRecDepth 100000
def limP (p : Mat) (i j : Nat) (v : Int) : Mat := fun a b => if a = i ∧ b = j then min (p i j) v else p a b
theorem limP_at (p : Mat) (i j : Nat) (v : Int) : limP p i j v i j = min (p i j) v := by unfold limP; rw [if_pos ⟨rfl, rfl⟩]
theorem limP_o {p : Mat} {i j a b : Nat} {v : Int} (h : ¬ (a = i ∧ b = j)) : limP p i j v a b = p a b := by unfold limP; rw [if_neg h]
theorem Rd.lim {n i j : Nat} {M p : Mat} {v : Int} (h : Rd n M p) (hi : i ≤ n) (hj : j ≤ n) (v0 : -536870912 ≤ v) (v1 : v ≤ 536870913) : Rd n (limM M i j v) (limP p i j v) := by
  have r := h.right i j hi hj
  refine ⟨fun a b ha hb => ?_, fun a b ha hb => ?_⟩
  · unfold limM upd
    split
    · exact .inr (by omega)
    · exact h.right a b ha hb
  · unfold limM upd limP
    by_cases e : a = i ∧ b = j
    · obtain ⟨rfl, rfl⟩ := e
      rw [if_pos ⟨rfl, rfl⟩, if_pos ⟨rfl, rfl⟩, tg_min (by omega) (by omega) v1, h.val a b hi hj]
      split <;> omega
    · rw [if_neg e, if_neg e]
      exact h.val a b ha hb
/-- A number that a clock is set to, as bounds. -/
structure Nm (k a b : Int) : Prop where
  lo : 0 ≤ k
  hi : k ≤ 1048576
  ea : a = 2 * k + 1
  eb : b = -(2 * k) + 1
theorem Nm.ab {k a b : Int} (h : Nm k a b) : pl a b = 1 ∧ pl b a = 1 := by
  obtain ⟨h0, h1, rfl, rfl⟩ := h
  have ho := opn_val
  have c1 := pl_cases (2 * k + 1) (-(2 * k) + 1)
  have c2 := pl_cases (-(2 * k) + 1) (2 * k + 1)
  omega
theorem Nm.fa {k a b : Int} (h : Nm k a b) : Fin' 536870913 a := .inr (by have := h.lo; have := h.hi; have := h.ea; omega)
theorem Nm.fb {k a b : Int} (h : Nm k a b) : Fin' 536870913 b := .inr (by have := h.lo; have := h.hi; have := h.eb; omega)
theorem S_F {x : Int} (h : Fin' 536870913 x) : F x := h.mono (by decide)
theorem S_pl {x y : Int} (h : Fin' 536870913 x) (h' : Fin' 536870913 y) : Fin' 1073741827 (pl x y) := pl_fin h h'
theorem S_plF {x y : Int} (h : Fin' 536870913 x) (h' : Fin' 536870913 y) : F (pl x y) := (S_pl h h').mono (by decide)
def rsP (x : Nat) (a b : Int) (p : Mat) : Mat := fun i j => if i = x then (if j = x then 1 else pl a (p 0 j)) else if j = x then pl (p i 0) b else p i j
theorem rsP_xx (x : Nat) (a b : Int) (p : Mat) : rsP x a b p x x = 1 := by unfold rsP; rw [if_pos rfl, if_pos rfl]
theorem rsP_x {x j : Nat} (a b : Int) (p : Mat) (h : ¬ j = x) : rsP x a b p x j = pl a (p 0 j) := by unfold rsP; rw [if_pos rfl, if_neg h]
theorem rsP_c {x i : Nat} (a b : Int) (p : Mat) (h : ¬ i = x) : rsP x a b p i x = pl (p i 0) b := by unfold rsP; rw [if_neg h, if_pos rfl]
theorem rsP_o {x i j : Nat} (a b : Int) (p : Mat) (h : ¬ i = x) (h' : ¬ j = x) : rsP x a b p i j = p i j := by unfold rsP; rw [if_neg h, if_neg h']
theorem rsP_cl {n x : Nat} {p : Mat} {k a b : Int} (h : Cl n p) (hf : FinM n 536870913 p) (hk : Nm k a b) : Cl n (rsP x a b p) := by
  have fa := hk.fa
  have fb := hk.fb
  have f : ∀ {i j}, i ≤ n → j ≤ n → Fin' 536870913 (p i j) := fun {i j} hi hj => hf i j hi hj
  refine ⟨fun i j hi hj => ?_, fun i hi => ?_, fun c hc i j hi hj => ?_⟩
  · unfold rsP
    split
    · split
      · exact .inr ⟨by omega, by omega⟩
      · exact (S_pl fa (f (by omega) hj)).mono (by decide)
    · split
      · exact (S_pl (f hi (by omega)) fb).mono (by decide)
      · exact h.fin i j hi hj
  · by_cases c : i = x
    · subst c; exact rsP_xx _ _ _ _
    · rw [rsP_o a b p c c]; exact h.one i hi
  · have hc' : c ≤ n := by omega
    have z0 : (0 : Nat) ≤ n := by omega
    by_cases ci : i = x
    · subst ci
      by_cases cc : c = i
      · subst cc
        rw [rsP_xx]
        by_cases cj : j = c
        · subst cj; rw [rsP_xx]; decide
        · rw [rsP_x a b p cj, one_pl (S_plF fa (f z0 hj))]; exact Int.le_refl _
      · rw [rsP_x a b p cc]
        by_cases cj : j = i
        · subst cj
          rw [rsP_xx, rsP_c a b p cc]
          have t := h.t z0 z0 hc'
          rw [h.one 0 z0] at t
          have e1 : pl (pl a (p 0 c)) (pl (p c 0) b) = pl a (pl (pl (p 0 c) (p c 0)) b) := by
            rw [pl_assoc (S_F fa) (S_F (f z0 hc')) (S_plF (f hc' z0) fb), pl_assoc (S_F (f z0 hc')) (S_F (f hc' z0)) (S_F fb)]
          rw [e1]
          have fm := S_plF (f z0 hc') (f hc' z0)
          have m1 := pl_mono F1 (S_F fb) fm (S_F fb) t (Int.le_refl _)
          rw [one_pl (S_F fb)] at m1
          have fm2 : F (pl (pl (p 0 c) (p c 0)) b) := (pl_fin' (S_pl (f z0 hc') (f hc' z0)) fb (by decide) (by decide)).mono (by decide)
          have m2 := pl_mono (S_F fa) (S_F fb) (S_F fa) fm2 (Int.le_refl _) m1
          rw [hk.ab.1] at m2
          exact m2
        · rw [rsP_x a b p cj, rsP_o a b p cc cj, pl_assoc (S_F fa) (S_F (f z0 hc')) (S_F (f hc' hj))]
          exact pl_mono (S_F fa) (S_F (f z0 hj)) (S_F fa) (S_plF (f z0 hc') (f hc' hj)) (Int.le_refl _) (h.t z0 hj hc')
    · by_cases cc : c = x
      · subst cc
        rw [rsP_c a b p ci]
        by_cases cj : j = c
        · subst cj
          rw [rsP_c a b p ci, rsP_xx, pl_one (S_plF (f hi z0) fb)]; exact Int.le_refl _
        · rw [rsP_o a b p ci cj, rsP_x a b p cj]
          have e1 : pl (pl (p i 0) b) (pl a (p 0 j)) = pl (p i 0) (p 0 j) := by
            rw [pl_assoc (S_F (f hi z0)) (S_F fb) (S_plF fa (f z0 hj)), ← pl_assoc (S_F fb) (S_F fa) (S_F (f z0 hj)), hk.ab.2, one_pl (S_F (f z0 hj))]
          rw [e1]
          exact h.t hi hj z0
      · rw [rsP_o a b p ci cc]
        by_cases cj : j = x
        · subst cj
          rw [rsP_c a b p ci, rsP_c a b p cc, ← pl_assoc (S_F (f hi hc')) (S_F (f hc' z0)) (S_F fb)]
          exact pl_mono (S_F (f hi z0)) (S_F fb) (S_plF (f hi hc') (f hc' z0)) (S_F fb) (h.t hi z0 hc') (Int.le_refl _)
        · rw [rsP_o a b p ci cj, rsP_o a b p cc cj]
          exact h.t hi hj hc'
def rsD (x : Nat) (a b : Int) (p : Mat) : Mat := limP (limP (frP x p) x 0 a) 0 x b
theorem Rd.reset {n x : Nat} {M p : Mat} {k a b : Int} (h : Rd n M p) (hx : x ≤ n) (x1 : 1 ≤ x) (hk : Nm k a b) : Rd n (limM (limM (freeK x (n + 1) M) x 0 a) 0 x b) (rsD x a b p) := by
  have fa := hk.fa
  have fb := hk.fb
  have h0 := hk.lo
  have h1 := hk.hi
  have e1 := hk.ea
  have e2 := hk.eb
  exact ((h.free x1).lim hx (by omega) (by omega) (by omega)).lim (by omega) hx (by omega) (by omega)
theorem rsD_x0 {x : Nat} (a b : Int) (p : Mat) (x1 : 1 ≤ x) : rsD x a b p x 0 = min opn a := by
  unfold rsD
  rw [limP_o (by omega), limP_at, frP_x, if_neg (by omega)]
theorem rsD_0x {x : Nat} (a b : Int) (p : Mat) (x1 : 1 ≤ x) : rsD x a b p 0 x = min (p 0 0) b := by
  unfold rsD
  rw [limP_at, limP_o (by omega), frP_c p (by omega)]
/-! ### Unset -/
def exD (x : Nat) (a b : Int) (p : Mat) : Mat := limP (limP p x 0 a) 0 x b
theorem Rd.exact {n x : Nat} {M p : Mat} {k a b : Int} (h : Rd n M p) (hx : x ≤ n) (x1 : 1 ≤ x) (hk : Nm k a b) : Rd n (limM (limM M x 0 a) 0 x b) (exD x a b p) := by
  have h0 := hk.lo
  have h1 := hk.hi
  have e1 := hk.ea
  have e2 := hk.eb
  exact (h.lim hx (by omega) (by omega) (by omega)).lim (by omega) hx (by omega) (by omega)
theorem exD_x0 {x : Nat} (a b : Int) (p : Mat) (x1 : 1 ≤ x) : exD x a b p x 0 = min (p x 0) a := by
  unfold exD
  rw [limP_o (by omega), limP_at]
theorem exD_0x {x : Nat} (a b : Int) (p : Mat) (x1 : 1 ≤ x) : exD x a b p 0 x = min (p 0 x) b := by
  unfold exD
  rw [limP_at, limP_o (by omega)]
theorem exD_o {x i j : Nat} (a b : Int) (p : Mat) (h : ¬ (i = x ∧ j = 0)) (h' : ¬ (i = 0 ∧ j = x)) : exD x a b p i j = p i j := by
  unfold exD
  rw [limP_o h', limP_o h]
theorem exD_le (x : Nat) (a b : Int) (p : Mat) (x1 : 1 ≤ x) (i j : Nat) : exD x a b p i j ≤ p i j := by
  by_cases c1 : i = x ∧ j = 0
  · obtain ⟨rfl, rfl⟩ := c1; rw [exD_x0 a b p x1]; omega
  · by_cases c2 : i = 0 ∧ j = x
    · obtain ⟨rfl, rfl⟩ := c2; rw [exD_0x a b p x1]; omega
    · rw [exD_o a b p c1 c2]; exact Int.le_refl _
/-- What is asked from where, and set again, lies in the zone. -/
theorem back_le {n m x : Nat} {p C : Mat} {k a b : Int} (hC : Cl n C) (hl : Le n C (exD x a b p)) (hx : x ≤ n) (x1 : 1 ≤ x) (hk : Nm k a b) : Le n (rsP x a b (frP x C)) p := fun i j hi hj => by
  have z0 : (0 : Nat) ≤ n := by omega
  have fa := S_F hk.fa
  have fb := S_F hk.fb
  have cp : C i j ≤ p i j := Int.le_trans (hl i j hi hj) (exD_le x a b p x1 i j)
  have l1 := hl x 0 hx z0
  rw [exD_x0 a b p x1] at l1
  have l2 := hl 0 x z0 hx
  rw [exD_0x a b p x1] at l2
  refine Int.le_trans ?_ cp
  by_cases ci : i = x
  · subst ci
    by_cases cj : j = i
    · subst cj; rw [rsP_xx, hC.one j hj]; exact Int.le_refl _
    · rw [rsP_x a b _ cj, frP_o C (by omega) cj]
      have t := hC.t z0 hj hi
      have u := pl_mono (hC.F z0 hi) (hC.F hi hj) fb (hC.F hi hj) (by omega) (Int.le_refl _)
      have fbc : F (pl b (C i j)) := (pl_fin' hk.fb (hC.fin i j hi hj) (by decide) (by decide)).mono (by decide)
      have v := pl_mono fa (hC.F z0 hj) fa fbc (Int.le_refl _) (Int.le_trans t u)
      rw [← pl_assoc fa fb (hC.F hi hj), hk.ab.1, one_pl (hC.F hi hj)] at v
      exact v
  · by_cases cj : j = x
    · subst cj
      rw [rsP_c a b _ ci, frP_o C ci (by omega)]
      have t := hC.t hi z0 hj
      have u := pl_mono (hC.F hi hj) (hC.F hj z0) (hC.F hi hj) fa (Int.le_refl _) (by omega)
      have fbc : F (pl (C i j) a) := (pl_fin' (hC.fin i j hi hj) hk.fa (by decide) (by decide)).mono (by decide)
      have v := pl_mono (hC.F hi z0) fb fbc fb (Int.le_trans t u) (Int.le_refl _)
      rw [pl_assoc (hC.F hi hj) fa fb, hk.ab.1, pl_one (hC.F hi hj)] at v
      exact v
    · rw [rsP_o a b _ ci cj, frP_o C ci cj]; exact Int.le_refl _
/-- A zone that a draft makes, and its closed form below what the draft reads as. -/
theorem rd_cases {n m : Nat} {M p : Mat} (h : Rd n M p) (hn : n ≤ 8) (hm : m = (n + 1) * (n + 1)) : zoneR n (drf n m (rowsL n M (n + 1))) = none ∨ zoneR n (drf n m (rowsL n M (n + 1))) = some (fun _ => 0) ∨ ∃ C, FullC n m C (cellsUpto n C m) ∧ Le n C p ∧ zoneR n (drf n m (rowsL n M (n + 1))) = some (cellsUpto n C m) := by
  have O := h.ok hm
  cases e : closeR n (drf n m (rowsL n M (n + 1))) with
  | none => exact .inr (.inl (by simp only [zoneR, e]))
  | some C =>
    have R := close_rounds hn O.fin O.diag e
    cases na : narAll n C m with
    | false => exact .inl (by rw [hm] at na e ⊢; simp only [zoneR, e, na]; rfl)
    | true =>
      refine .inr (.inr ⟨C, full_mk' (R.cl hn) (fun j hj => Int.le_trans (R.le 0 j (by omega) hj) (drf_low n m _ hm j hj)) na, fun i j hi hj => ?_, by rw [hm] at na e ⊢; simp only [zoneR, e, na]; rfl⟩)
      have := R.le i j hi hj
      rw [h.drf hm hi hj] at this
      exact this
theorem narB_mono {x y : Int} (hx : narOk x = true) (hy : narOk y = true) (h : x ≤ y) : narB x ≤ narB y := by
  have ho := opn_val
  rcases narOk_cases hx with ⟨h1, h2⟩ | ⟨h1, h2, h3, h4⟩ <;> rcases narOk_cases hy with ⟨k1, k2⟩ | ⟨k1, k2, k3, k4⟩ <;> rw [h2, k2] <;> omega
theorem full_inc {n m : Nat} {p q : Mat} {c d : Row} (h : FullC n m p c) (h' : FullC n m q d) (hm : m = (n + 1) * (n + 1)) (hl : Le n q p) : incB m c d = true := by
  rw [incB_iff]
  right
  intro k hk
  rw [h.cells, h'.cells]
  unfold cellsUpto
  rw [if_pos hk, if_pos hk]
  refine narB_mono (narAll_at h'.nar k hk) (narAll_at h.nar k hk) ?_
  rw [hm] at hk
  exact hl _ _ (by have := Nat.div_lt_of_lt_mul hk; omega) (by have := Nat.mod_lt k (show 0 < n + 1 by omega); omega)
end Go.Proofs.YteifpplemohdcaaGreat
