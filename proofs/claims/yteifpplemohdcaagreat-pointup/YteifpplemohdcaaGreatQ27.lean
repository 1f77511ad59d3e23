/-
  A closed form with one bound more: it is not empty, if the bound does not go against the opposite one.
-/
import Derived.Test.YteifpplemohdcaaGreatQ19
import Derived.Test.YteifpplemohdcaaGreatQ26
import Derived.Test.YteifpplemohdcaaGreatQ4
import Derived.Test.YteifpplemohdcaaGreatQ24
import Derived.Test.YteifpplemohdcaaGreatQ1
import Derived.Test.YteifpplemohdcaaGreatQ25
namespace Go.Proofs.YteifpplemohdcaaGreat
open Go.RowKit
set_option linter.unusedVariables false
set_option maxRecDepth 100000
theorem rounds_above {n : Nat} {r q : Mat} (hn : n ≤ 8) (hf : FinM n (Kb 0) r) (ho : One n r) (fq : FinM n 144115188075855872 q) (oq : One n q) (tq : Tri n (n + 1) q) (le : ∀ i j, i ≤ n → j ≤ n → q i j ≤ r i j) (c : Nat) (hc : c ≤ n + 1) : ∃ p, clAll n c r = some p ∧ ∀ i j, i ≤ n → j ≤ n → q i j ≤ p i j := by
  induction c with
  | zero => exact ⟨r, rfl, le⟩
  | succ c ih =>
    obtain ⟨p, ep, lp⟩ := ih (by omega)
    have R := rounds_of hn hf ho c (by omega) p ep
    have bd := Kb_bd c (by omega)
    have hs := still_of (k := c) (by omega) R.fin R.one (by omega)
    have ff : ∀ i j, i ≤ n → j ≤ n → F (p i j) := fun i j hi hj => (R.fin i j hi hj).mono (by omega)
    have fg : ∀ i j, i ≤ n → j ≤ n → F (q i j) := fun i j hi hj => (fq i j hi hj).mono (by decide)
    have key : ∀ i j, i ≤ n → j ≤ n → q i j ≤ pl (p i c) (p c j) := fun i j hi hj => Int.le_trans (tq c (by omega) i j hi hj) (pl_mono (fg i c hi (by omega)) (fg c j (by omega) hj) (ff i c hi (by omega)) (ff c j (by omega) hj) (lp i c hi (by omega)) (lp c j (by omega) hj))
    rcases all_mid hs R.one (by omega) (n + 1) (Nat.le_refl _) with e2 | ⟨e2, i, hi, h⟩
    · refine ⟨midR n c p (n + 1) 0, by simp [clAll, ep, e2], fun i j hi hj => ?_⟩
      rw [mid_all]
      unfold tgt
      rw [if_pos ⟨hi, hj⟩, dplus_pl (R.fin i c hi (by omega)) (R.fin c j (by omega) hj) (by omega)]
      have := key i j hi hj
      have := lp i j hi hj
      omega
    · exfalso
      rw [dplus_pl (R.fin i c hi (by omega)) (R.fin c i (by omega) hi) (by omega)] at h
      have := key i i hi hi
      rw [oq i hi] at this
      omega
theorem pl_fin' {a b K L : Int} (ha : Fin' K a) (hb : Fin' L b) (k0 : 0 ≤ K) (l0 : 0 ≤ L) : Fin' (K + L + 1) (pl a b) := by
  have := pl_cases a b
  unfold Fin' at *
  omega
theorem one_pl {a : Int} (h : F a) : pl 1 a = a := by rw [pl_comm]; exact pl_one h
end Go.Proofs.YteifpplemohdcaaGreat

/-
  Which zone a matrix makes hangs on the closed matrices below it alone.
-/
namespace Go.Proofs.YteifpplemohdcaaGreat
open Go.RowKit
set_option linter.unusedVariables false
/-- A closed matrix. -/
structure Cl (n : Nat) (q : Mat) : Prop where
  fin : FinM n 144115188075855872 q
  one : One n q
  tri : Tri n (n + 1) q
def Le (n : Nat) (q r : Mat) : Prop := ∀ i j, i ≤ n → j ≤ n → q i j ≤ r i j
/-- A matrix that may be closed. -/
structure Ok (n : Nat) (r : Mat) : Prop where
  fin : FinM n (Kb 0) r
  diag : ∀ i, i ≤ n → r i i ≤ 1
theorem Rounds.cl {n : Nat} {r p : Mat} (hn : n ≤ 8) (h : Rounds n (n + 1) r p) : Cl n p := ⟨fin_mono h.fin (Kb_bd (n + 1) (by omega)).2, h.one, h.tri⟩
theorem one_of {n : Nat} {q r : Mat} (hq : Cl n q) (hr : Ok n r) (h : Le n q r) : One n r := fun i hi => by
  have := hq.one i hi
  have := h i i hi hi
  have := hr.diag i hi
  omega
/-- The greatest closed matrix below. -/
theorem close_above {n : Nat} {q r : Mat} (hn : n ≤ 8) (hq : Cl n q) (hr : Ok n r) (h : Le n q r) : ∃ p, closeR n r = some p ∧ Le n q p := by
  have o := one_of hq hr h
  obtain ⟨p, hp, hl⟩ := rounds_above hn hr.fin o hq.fin hq.one hq.tri h (n + 1) (Nat.le_refl _)
  refine ⟨p, ?_, hl⟩
  unfold closeR
  rw [o.ok]
  exact hp
theorem narAll_congr {n : Nat} {p q : Mat} (h : ∀ i j, i ≤ n → j ≤ n → p i j = q i j) : ∀ m, m ≤ (n + 1) * (n + 1) → narAll n p m = narAll n q m
  | 0, _ => rfl
  | m + 1, hm => by
    have d1 : m / (n + 1) ≤ n := by have := Nat.div_lt_of_lt_mul (show m < (n + 1) * (n + 1) by omega); omega
    have d2 : m % (n + 1) ≤ n := by have := Nat.mod_lt m (show 0 < n + 1 by omega); omega
    simp only [narAll, narAll_congr h m (by omega), flat, h _ _ d1 d2]
theorem cellsUpto_congr {n : Nat} {p q : Mat} (h : ∀ i j, i ≤ n → j ≤ n → p i j = q i j) (m : Nat) (hm : m ≤ (n + 1) * (n + 1)) : cellsUpto n p m = cellsUpto n q m := by
  funext k
  unfold cellsUpto
  split
  · rename_i hk
    have d1 : k / (n + 1) ≤ n := by have := Nat.div_lt_of_lt_mul (show k < (n + 1) * (n + 1) by omega); omega
    have d2 : k % (n + 1) ≤ n := by have := Nat.mod_lt k (show 0 < n + 1 by omega); omega
    simp only [flat, h _ _ d1 d2]
  · rfl
theorem tgV_narr {s q : Int} (hs : s = opn ∨ s = 1) (le : q ≤ s) (ok : narOk q = true) : tgV s (narB q) = q := by
  have ho := opn_val
  by_cases e : q = opn
  · have : narB q = 2147483647 := by unfold narB; rw [if_pos e]
    rw [this]
    unfold tgV
    rw [if_pos rfl]
    omega
  · have h' : ¬ (q < -536870912 ∨ 536870913 < q) := by unfold narOk at ok; simpa [e] using ok
    have : narB q = q := by unfold narB; rw [if_neg e, if_neg h']
    rw [this]
    unfold tgV
    rw [if_neg (by omega)]
    omega
theorem drf_ok (n m : Nat) (l : List Int) (hm : m = (n + 1) * (n + 1)) (hr : RightL m l) : Ok n (drf n m l) := ⟨drf_fin n m l hm hr, drf_diag n m l hm hr⟩
end Go.Proofs.YteifpplemohdcaaGreat

/-
  What becomes of zones by both ways, in numbers: the cells of a zone, Up, Down.
-/
namespace Go.Proofs.YteifpplemohdcaaGreat
open Go.RowKit
set_option linter.unusedVariables false
/-- The closed form behind a zone's cells. -/
structure FullC (n m : Nat) (p : Mat) (c : Row) : Prop where
  cl : Cl n p
  low : ∀ j, j ≤ n → p 0 j ≤ 1
  nar : narAll n p m = true
  cells : c = cellsUpto n p m
def ZC (n m : Nat) (c : Row) : Prop := c = (fun _ => 0) ∨ ∃ p, FullC n m p c
theorem zc_of {n m : Nat} {r : Mat} {c : Row} (hn : n ≤ 8) (hm : m = (n + 1) * (n + 1)) (hr : Ok n r) (h0 : ∀ j, j ≤ n → r 0 j ≤ 1) (hz : zoneR n r = some c) : ZC n m c := by
  unfold zoneR at hz
  rw [← hm] at hz
  cases e : closeR n r with
  | none =>
    rw [e] at hz
    cases hz
    exact .inl rfl
  | some p =>
    rw [e] at hz
    have hz : (if narAll n p m = true then some (cellsUpto n p m) else none) = some c := hz
    split at hz
    · rename_i na
      cases hz
      have R := close_rounds hn hr.fin hr.diag e
      exact .inr ⟨p, R.cl hn, fun j hj => Int.le_trans (R.le 0 j (by omega) hj) (h0 j hj), na, rfl⟩
    · cases hz
theorem drf_low (n m : Nat) (l : List Int) (hm : m = (n + 1) * (n + 1)) (j : Nat) (hj : j ≤ n) : drf n m l 0 j ≤ 1 := by
  rw [drf_at n m l hm 0 j (by omega) hj]
  have : startV 0 j = 1 := by unfold startV; rw [if_neg (by omega)]
  rw [this]
  unfold tgV
  split <;> omega
theorem zc_drf {n m : Nat} {l : List Int} {c : Row} (hn : n ≤ 8) (hm : m = (n + 1) * (n + 1)) (hr : RightL m l) (hz : zoneR n (drf n m l) = some c) : ZC n m c :=
  zc_of hn hm (drf_ok n m l hm hr) (fun j hj => drf_low n m l hm j hj) hz
theorem FullC.ok {n m : Nat} {p : Mat} {c : Row} (h : FullC n m p c) (hm : m = (n + 1) * (n + 1)) {i j : Nat} (hi : i ≤ n) (hj : j ≤ n) : narOk (p i j) = true := by
  have := narAll_at h.nar (i * (n + 1) + j) (by rw [hm]; exact pos_lt hi hj)
  rwa [flat_at n p i j hj] at this
theorem FullC.at {n m : Nat} {p : Mat} {c : Row} (h : FullC n m p c) (hm : m = (n + 1) * (n + 1)) {i j : Nat} (hi : i ≤ n) (hj : j ≤ n) : c (i * (n + 1) + j) = narB (p i j) := by
  rw [h.cells]
  unfold cellsUpto
  rw [if_pos (by rw [hm]; exact pos_lt hi hj), flat_at n p i j hj]
theorem narOk_cases {q : Int} (h : narOk q = true) : (q = opn ∧ narB q = 2147483647) ∨ (¬ q = opn ∧ narB q = q ∧ -536870912 ≤ q ∧ q ≤ 536870913) := by
  by_cases e : q = opn
  · exact .inl ⟨e, by unfold narB; rw [if_pos e]⟩
  · have h' : ¬ (q < -536870912 ∨ 536870913 < q) := by unfold narOk at h; simpa [e] using h
    exact .inr ⟨e, by unfold narB; rw [if_neg e, if_neg h'], by omega, by omega⟩
theorem FullC.le {n m : Nat} {p : Mat} {c : Row} (h : FullC n m p c) {i j : Nat} (hi : i ≤ n) (hj : j ≤ n) : p i j ≤ startV i j := by
  unfold startV
  have ho := opn_val
  split
  · have f := h.cl.fin i j hi hj
    unfold Fin' at f
    omega
  · by_cases i0 : i = 0
    · subst i0
      exact h.low j hj
    · obtain rfl : i = j := by omega
      have := h.cl.one i hi
      omega
/-- The program's draft, closed in. -/
theorem pm_at (n m : Nat) (M : Mat) (hm : m = (n + 1) * (n + 1)) {i j : Nat} (hi : i ≤ n) (hj : j ≤ n) : drf n m (rowsL n M (n + 1)) i j = tgV (startV i j) (M i j) := by
  rw [drf_at n m _ hm i j hi hj, rowsL, listOf_get _ _ _ (pos_lt hi hj), flat_at n M i j hj]
def RightM (n : Nat) (M : Mat) : Prop := ∀ i j, i ≤ n → j ≤ n → M i j = 2147483647 ∨ (-536870912 ≤ M i j ∧ M i j ≤ 536870913)
theorem right_rows {n m : Nat} {M : Mat} (hm : m = (n + 1) * (n + 1)) (h : RightM n M) : RightL m (rowsL n M (n + 1)) := fun k hk => by
  rw [rowsL, listOf_get _ _ _ (by rw [← hm]; exact hk)]
  unfold flat
  rw [hm] at hk
  exact h _ _ (by have := Nat.div_lt_of_lt_mul hk; omega) (by have := Nat.mod_lt k (show 0 < n + 1 by omega); omega)
theorem allRight_rows {n m : Nat} {M : Mat} (hm : m = (n + 1) * (n + 1)) (h : RightM n M) : allRight (rowsL n M (n + 1)) m = true := by
  have : ∀ k, k ≤ m → allRight (rowsL n M (n + 1)) k = true := by
    intro k
    induction k with
    | zero => intro _; rfl
    | succ k ih =>
      intro hk
      simp only [allRight, ih (by omega), Bool.true_and]
      exact decide_eq_true (right_rows hm h k (by omega))
  exact this m (Nat.le_refl _)
theorem FullC.rightM {n m : Nat} {p : Mat} {c : Row} (h : FullC n m p c) (hm : m = (n + 1) * (n + 1)) : RightM n (oR n c m) := fun i j hi hj => by
  have e : oR n c m i j = narB (p i j) := by unfold oR; rw [if_pos ⟨hj, by rw [hm]; exact pos_lt hi hj⟩, h.at hm hi hj]
  rw [e]
  rcases narOk_cases (h.ok hm hi hj) with ⟨h1, h2⟩ | ⟨h1, h2, h3, h4⟩
  · exact .inl h2
  · exact .inr (by rw [h2]; omega)
theorem FullC.oR {n m : Nat} {p : Mat} {c : Row} (h : FullC n m p c) (hm : m = (n + 1) * (n + 1)) {i j : Nat} (hi : i ≤ n) (hj : j ≤ n) : Go.Proofs.YteifpplemohdcaaGreat.oR n c m i j = narB (p i j) := by
  unfold Go.Proofs.YteifpplemohdcaaGreat.oR
  rw [if_pos ⟨hj, by rw [hm]; exact pos_lt hi hj⟩, h.at hm hi hj]
theorem FullC.pm {n m : Nat} {p : Mat} {c : Row} (h : FullC n m p c) (hm : m = (n + 1) * (n + 1)) {i j : Nat} (hi : i ≤ n) (hj : j ≤ n) : tgV (startV i j) (Go.Proofs.YteifpplemohdcaaGreat.oR n c m i j) = p i j := by
  rw [h.oR hm hi hj]
  exact tgV_narr (by unfold startV; split; exact .inl rfl; exact .inr rfl) (h.le hi hj) (h.ok hm hi hj)
theorem FullC.zero {n m : Nat} {p : Mat} {c : Row} (h : FullC n m p c) (hm : m = (n + 1) * (n + 1)) : c 0 = 1 := by
  have := h.at hm (i := 0) (j := 0) (by omega) (by omega)
  rw [h.cl.one 0 (by omega), show narB 1 = 1 by decide] at this
  simpa using this
theorem zone_hollow {n : Nat} {r : Mat} (h : r 0 0 < 1) : zoneR n r = some (fun _ => 0) := by
  have hd : diagOk n r (n + 1) = false := diagOk_false (c := 1) (n + 1) (by omega) (by simp [diagOk]; omega)
  unfold zoneR closeR
  rw [hd]
  rfl
theorem pm_hollow {n m : Nat} {M : Mat} (hm : m = (n + 1) * (n + 1)) (h : M 0 0 = 0) : zoneR n (drf n m (rowsL n M (n + 1))) = some (fun _ => 0) := by
  refine zone_hollow ?_
  rw [pm_at n m M hm (by omega) (by omega), h]
  decide
/-! ### Up -/
/-! ### Down -/
end Go.Proofs.YteifpplemohdcaaGreat

/-
  Limits: both ways of Constrain are one, in numbers; both tell the same.
-/
namespace Go.Proofs.YteifpplemohdcaaGreat
open Go.RowKit
set_option linter.unusedVariables false
set_option maxRecDepth 100000
theorem limK_right {n : Nat} {L : Lims} {M : Mat} (h : RightM n M) : ∀ K, bndA n L K = true → rgtA L K = true → RightM n (limO L K M)
  | 0, _, _ => h
  | K + 1, hb, hr => fun i j hi hj => by
    have hb' : bndA n L K = true := by simp only [bndA, Bool.and_eq_true] at hb; exact hb.1
    have hr' : rgtA L K = true ∧ rightB (L.b K) = true := by simpa only [rgtA, Bool.and_eq_true] using hr
    have ih := limK_right h K hb' hr'.1 i j hi hj
    have rb := hr'.2
    simp only [rightB, decide_eq_true_eq] at rb
    have e : limO L (K + 1) M i j = limM (limO L K M) (L.i K).toNat (L.j K).toNat (L.b K) i j := rfl
    rw [e]
    unfold limM upd
    clear e
    split
    · rename_i e
      obtain ⟨rfl, rfl⟩ := e
      omega
    · exact ih
theorem tg_min {s x z : Int} (hz : ¬ z = 2147483647) (hx : x = 2147483647 ∨ x ≤ 536870913) (z1 : z ≤ 536870913) : tgV s (min x z) = if z < tgV s x then z else tgV s x := by
  unfold tgV
  rw [if_neg (by omega)]
  by_cases e : x = 2147483647
  · rw [if_pos e]
    split <;> omega
  · rw [if_neg e]
    split <;> omega
theorem pm_hollow' {n m : Nat} {M : Mat} (hm : m = (n + 1) * (n + 1)) (h : M 0 0 ≤ 0) : zoneR n (drf n m (rowsL n M (n + 1))) = some (fun _ => 0) := by
  refine zone_hollow ?_
  rw [pm_at n m M hm (by omega) (by omega)]
  unfold tgV
  rw [if_neg (by omega)]
  omega
end Go.Proofs.YteifpplemohdcaaGreat

/-
  What cells of zones are; what both say of zones.
-/
namespace Go.Proofs.YteifpplemohdcaaGreat
open Go.RowKit
set_option linter.unusedVariables false
set_option maxRecDepth 100000
theorem narB_right (x : Int) : rightB (narB x) = true := by
  unfold narB rightB
  split
  · simp
  · split
    · simp
    · simp; omega
def minR (c d : Row) : Row := fun j => min (c j) (d j)
theorem allRight_of (l : List Int) (m : Nat) (h : ∀ j, j < m → rightB (l.getD j 0) = true) : allRight l m = true := by
  induction m with
  | zero => rfl
  | succ m ih => simp only [allRight, ih (fun j hj => h j (by omega)), h m (by omega), Bool.and_self]
/-! ### Equal -/
/-! ### Includes -/
theorem nless_iff (c d : Row) (m : Nat) : nless c d m = true ↔ ∀ j, j < m → d j ≤ c j := by
  induction m with
  | zero => simp [nless]
  | succ m ih =>
    simp only [nless, Bool.and_eq_true, ih, decide_eq_true_eq]
    constructor
    · rintro ⟨a, b⟩ j hj
      by_cases e : j = m
      · subst e; exact b
      · exact a j (by omega)
    · intro h
      exact ⟨fun j hj => h j (by omega), h m (by omega)⟩
end Go.Proofs.YteifpplemohdcaaGreat

/-
  The document's Equal, Common, Meets.
-/
namespace Go.Proofs.YteifpplemohdcaaGreat
open Go.RowKit
set_option linter.unusedVariables false
set_option maxRecDepth 100000
/-! ### Common -/
theorem listOf_congr (c d : Row) (m : Nat) (h : ∀ j, j < m → c j = d j) : listOf c m = listOf d m := by
  unfold listOf
  exact List.map_congr_left fun a ha => h a (by simpa using ha)
end Go.Proofs.YteifpplemohdcaaGreat

/-
  What two zones have in common, in numbers: And and Constrain by all cells are one.
-/
namespace Go.Proofs.YteifpplemohdcaaGreat
open Go.RowKit
set_option linter.unusedVariables false
set_option maxRecDepth 100000
theorem le_limM {r : Mat} {a b i j : Nat} {v x : Int} : x ≤ limM r a b v i j ↔ (x ≤ r i j ∧ (a = i → b = j → x ≤ v)) := by
  unfold limM upd
  by_cases e : i = a ∧ j = b
  · obtain ⟨rfl, rfl⟩ := e
    rw [if_pos ⟨rfl, rfl⟩]
    constructor
    · intro h; exact ⟨by omega, fun _ _ => by omega⟩
    · rintro ⟨h1, h2⟩; have := h2 rfl rfl; omega
  · rw [if_neg e]
    constructor
    · intro h; exact ⟨h, fun e1 e2 => absurd ⟨e1.symm, e2.symm⟩ e⟩
    · exact fun h => h.1
theorem le_tgtM {n : Nat} {c : Row} {r : Mat} {i j : Nat} {x : Int} : ∀ K, x ≤ tgtM n c K r i j ↔ (x ≤ r i j ∧ ∀ k, k < K → k / (n + 1) = i → k % (n + 1) = j → x ≤ c k)
  | 0 => ⟨fun h => ⟨h, fun k hk => by omega⟩, fun h => h.1⟩
  | K + 1 => by
    rw [show tgtM n c (K + 1) r = limM (tgtM n c K r) (K / (n + 1)) (K % (n + 1)) (c K) from rfl, le_limM, le_tgtM K]
    constructor
    · rintro ⟨⟨h1, h2⟩, h3⟩
      refine ⟨h1, fun k hk e1 e2 => ?_⟩
      by_cases q : k = K
      · subst q; exact h3 e1 e2
      · exact h2 k (by omega) e1 e2
    · rintro ⟨h1, h2⟩
      exact ⟨⟨h1, fun k hk => h2 k (by omega)⟩, h2 K (by omega)⟩
theorem eq_of_le {a b : Int} (h : ∀ x, x ≤ a ↔ x ≤ b) : a = b := Int.le_antisymm ((h a).1 (Int.le_refl _)) ((h b).2 (Int.le_refl _))
theorem place_div {n i j : Nat} (hj : j ≤ n) : (i * (n + 1) + j) / (n + 1) = i := by rw [Nat.mul_comm, Nat.mul_add_div (by omega), Nat.div_eq_of_lt (by omega)]; rfl
theorem place_mod {n i j : Nat} (hj : j ≤ n) : (i * (n + 1) + j) % (n + 1) = j := by rw [Nat.mul_comm, Nat.mul_add_mod, Nat.mod_eq_of_lt (by omega)]
theorem tgt_at {n m : Nat} {c : Row} {r : Mat} (hm : m = (n + 1) * (n + 1)) {i j : Nat} (hi : i ≤ n) (hj : j ≤ n) : tgtM n c m r i j = min (r i j) (c (i * (n + 1) + j)) := by
  refine eq_of_le fun x => ?_
  rw [le_tgtM]
  constructor
  · rintro ⟨h1, h2⟩
    have := h2 (i * (n + 1) + j) (by rw [hm]; exact pos_lt hi hj) (place_div hj) (place_mod hj)
    omega
  · intro h
    refine ⟨by omega, fun k hk e1 e2 => ?_⟩
    have : i * (n + 1) + j = k := by rw [← e1, ← e2, Nat.mul_comm]; exact Nat.div_add_mod k (n + 1)
    rw [← this]
    omega
theorem rows_of {n m : Nat} {M : Mat} {l : Row} (hm : m = (n + 1) * (n + 1)) (h : ∀ i j, i ≤ n → j ≤ n → M i j = l (i * (n + 1) + j)) : rowsL n M (n + 1) = listOf l m := by
  rw [rowsL, ← hm]
  refine listOf_congr _ _ _ fun k hk => ?_
  rw [hm] at hk
  unfold flat
  rw [h _ _ (by have := Nat.div_lt_of_lt_mul hk; omega) (by have := Nat.mod_lt k (show 0 < n + 1 by omega); omega), Nat.mul_comm, Nat.div_add_mod]
theorem oR_at {n m : Nat} {c : Row} (hm : m = (n + 1) * (n + 1)) {i j : Nat} (hi : i ≤ n) (hj : j ≤ n) : oR n c m i j = c (i * (n + 1) + j) := by
  unfold oR
  rw [if_pos ⟨hj, by rw [hm]; exact pos_lt hi hj⟩]
theorem oand_one {n m : Nat} {c d : Row} (hm : m = (n + 1) * (n + 1)) : rowsL n (andK n m (fun _ => d) 1 (oR n c m)) (n + 1) = listOf (minR c d) m := rows_of hm fun i j hi hj => by
  show tgtM n d m (oR n c m) i j = _
  rw [tgt_at hm hi hj, oR_at hm hi hj]
  rfl
/-- All cells may be. -/
theorem zc_right {n m : Nat} {c : Row} (hm : m = (n + 1) * (n + 1)) (h : ZC n m c) (k : Nat) : rightB (c k) = true := by
  rcases h with rfl | ⟨p, hp⟩
  · rfl
  · rw [hp.cells]
    unfold cellsUpto
    split
    · exact narB_right _
    · rfl
theorem right_min {c d : Row} {k : Nat} (h1 : rightB (c k) = true) (h2 : rightB (d k) = true) : rightB (minR c d k) = true := by
  have e : minR c d k = c k ∨ minR c d k = d k := by unfold minR; omega
  rcases e with e | e
  · rw [e]; exact h1
  · rw [e]; exact h2
end Go.Proofs.YteifpplemohdcaaGreat

/-
  The hull of zones, in numbers.
-/
namespace Go.Proofs.YteifpplemohdcaaGreat
open Go.RowKit
set_option linter.unusedVariables false
set_option maxRecDepth 100000
def maxR (c d : Row) : Row := fun j => max (c j) (d j)
/-- The cells of a hull. -/
def hr (c : Row) (zc : Nat → Row) : Nat → Row
  | 0 => c
  | K + 1 => if decide (zc K 0 < 1) = true then hr c zc K else if decide (hr c zc K 0 < 1) = true then zc K else maxR (hr c zc K) (zc K)
theorem narAll_of {n : Nat} {p : Mat} : ∀ m, (∀ k, k < m → narOk (flat n p k) = true) → narAll n p m = true
  | 0, _ => rfl
  | m + 1, h => by simp only [narAll, narAll_of m fun k hk => h k (by omega), h m (by omega), Bool.and_self]
/-- A zone's cells make the zone again. -/
theorem zc_zone {n m : Nat} {c : Row} (hn : n ≤ 8) (hm : m = (n + 1) * (n + 1)) (h : ZC n m c) : zoneR n (drf n m (listOf c m)) = some c := by
  rcases h with rfl | ⟨p, hp⟩
  · refine zone_hollow ?_
    rw [drf_at n m _ hm 0 0 (by omega) (by omega), listOf_get _ _ _ (show 0 * (n + 1) + 0 < m by rw [hm, Nat.zero_mul, Nat.zero_add]; exact Nat.mul_pos (Nat.succ_pos n) (Nat.succ_pos n))]
    decide
  · have e : ∀ i j, i ≤ n → j ≤ n → drf n m (listOf c m) i j = p i j := fun i j hi hj => by
      rw [drf_at n m _ hm i j hi hj, listOf_get _ _ _ (by rw [hm]; exact pos_lt hi hj), ← oR_at (c := c) hm hi hj]
      exact hp.pm hm hi hj
    have rR : RightL m (listOf c m) := fun k hk => by
      rw [listOf_get _ _ _ hk]
      have := zc_right hm (.inr ⟨p, hp⟩ : ZC n m c) k
      simpa only [rightB, decide_eq_true_eq] using this
    have O := drf_ok n m _ hm rR
    obtain ⟨p', h1, h2⟩ := close_above hn hp.cl O (fun i j hi hj => by rw [e i j hi hj]; exact Int.le_refl _)
    have R := close_rounds hn O.fin O.diag h1
    have eq : ∀ i j, i ≤ n → j ≤ n → p' i j = p i j := fun i j hi hj => Int.le_antisymm (by have := R.le i j hi hj; rw [e i j hi hj] at this; exact this) (h2 i j hi hj)
    have n1 : narAll n p' ((n + 1) * (n + 1)) = true := by rw [narAll_congr eq _ (Nat.le_refl _), ← hm]; exact hp.nar
    have n2 : cellsUpto n p' ((n + 1) * (n + 1)) = c := by rw [cellsUpto_congr eq _ (Nat.le_refl _), ← hm]; exact hp.cells.symm
    simp [zoneR, h1, n1, n2]
/-- Whether a zone includes another one. -/
def incB (m : Nat) (c d : Row) : Bool := decide (d 0 < 1) || nless c d m
theorem incB_iff {m : Nat} {c d : Row} : incB m c d = true ↔ (d 0 < 1 ∨ ∀ j, j < m → d j ≤ c j) := by
  unfold incB
  rw [Bool.or_eq_true, decide_eq_true_eq, nless_iff]
end Go.Proofs.YteifpplemohdcaaGreat
