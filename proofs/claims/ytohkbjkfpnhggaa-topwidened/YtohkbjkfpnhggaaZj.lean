/-
  A closed form with one bound more: it is not empty, if the bound does not go against the opposite one.
-/
import Derived.Test.YtohkbjkfpnhggaaHaz
import Derived.Test.YtohkbjkfpnhggaaFfz
import Derived.Test.YtohkbjkfpnhggaaZg
import Derived.Test.YtohkbjkfpnhggaaZh
namespace Go.Proofs.Ytohkbjkfpnhggaa
open Go.RowKit
set_option linter.unusedVariables false
set_option maxRecDepth 100000
theorem rounds_above {n : Nat} {r q : Mat} (hn : n ≤ 8) (hf : FinM n (Kb 0) r) (ho : One n r) (fq : FinM n 144115188075855872 q) (oq : One n q) (tq : Tri n (n + 1) q) (le : ∀ i j, i ≤ n → j ≤ n → q i j ≤ r i j) (c : Nat) (hc : c ≤ n + 1) : ∃ p, clAll n c r = some p ∧ ∀ i j, i ≤ n → j ≤ n → q i j ≤ p i j := by
  induction c with
  | zero => exact ⟨r, rfl, le⟩
  | succ c ih =>
    obtain ⟨p, ep, lp⟩ := ih (by omega)
    have R := rounds_of hn hf ho c (by omega) p ep
    have bd := Kb_bd c (by omega)
    have hs := still_of (k := c) (by omega) R.fin R.one (by omega)
    have ff : ∀ i j, i ≤ n → j ≤ n → F (p i j) := fun i j hi hj => (R.fin i j hi hj).mono (by omega)
    have fg : ∀ i j, i ≤ n → j ≤ n → F (q i j) := fun i j hi hj => (fq i j hi hj).mono (by decide)
    have key : ∀ i j, i ≤ n → j ≤ n → q i j ≤ pl (p i c) (p c j) := fun i j hi hj => Int.le_trans (tq c (by omega) i j hi hj) (pl_mono (fg i c hi (by omega)) (fg c j (by omega) hj) (ff i c hi (by omega)) (ff c j (by omega) hj) (lp i c hi (by omega)) (lp c j (by omega) hj))
    rcases all_mid hs R.one (by omega) (n + 1) (Nat.le_refl _) with e2 | ⟨e2, i, hi, h⟩
    · refine ⟨midR n c p (n + 1) 0, by simp [clAll, ep, e2], fun i j hi hj => ?_⟩
      rw [mid_all]
      unfold tgt
      rw [if_pos ⟨hi, hj⟩, dplus_pl (R.fin i c hi (by omega)) (R.fin c j (by omega) hj) (by omega)]
      have := key i j hi hj
      have := lp i j hi hj
      omega
    · exfalso
      rw [dplus_pl (R.fin i c hi (by omega)) (R.fin c i (by omega) hi) (by omega)] at h
      have := key i i hi hi
      rw [oq i hi] at this
      omega
/-- With one bound more. -/
def withB (p : Mat) (i j : Nat) (o : Int) : Mat := fun a b => min (p a b) (pl (pl (p a j) o) (p i b))
theorem pl_fin' {a b K L : Int} (ha : Fin' K a) (hb : Fin' L b) (k0 : 0 ≤ K) (l0 : 0 ≤ L) : Fin' (K + L + 1) (pl a b) := by
  have := pl_cases a b
  unfold Fin' at *
  omega
theorem pl_mono1 {a b c : Int} (ha : F a) (hb : F b) (hc : F c) (h : a ≤ b) : pl a c ≤ pl b c := pl_mono ha hc hb hc h (Int.le_refl _)
theorem pl_mono2 {a b c : Int} (ha : F a) (hb : F b) (hc : F c) (h : a ≤ b) : pl c a ≤ pl c b := pl_mono hc ha hc hb (Int.le_refl _) h
theorem one_pl {a : Int} (h : F a) : pl 1 a = a := by rw [pl_comm]; exact pl_one h
theorem fP {n : Nat} {p : Mat} (hf : FinM n 1073741824 p) (a b : Nat) (ha : a ≤ n) (hb : b ≤ n) : Fin' 1073741824 (p a b) := hf a b ha hb
theorem withB_one {n : Nat} {p : Mat} {i j : Nat} {o : Int} (hf : FinM n 1073741824 p) (ho : One n p) (ht : Tri n (n + 1) p) (hi : i ≤ n) (hj : j ≤ n) (fo : Fin' 1073741824 o) (h : 1 ≤ pl (p i j) o) : One n (withB p i j o) := by
  intro a ha
  unfold withB
  have f1 := fP hf a j ha hj
  have f2 := fP hf i a hi ha
  have f3 := fP hf i j hi hj
  have F1 : F (p a j) := f1.mono (by decide)
  have F2 : F (p i a) := f2.mono (by decide)
  have F3 : F (p i j) := f3.mono (by decide)
  have Fo : F o := fo.mono (by decide)
  have t := ht a (by omega) i j hi hj
  have e : pl (pl (p a j) o) (p i a) = pl (pl (p i a) (p a j)) o := by
    rw [pl_comm (pl (p a j) o) (p i a), pl_assoc F2 F1 Fo]
  rw [e, ho a ha]
  have F4 : F (pl (p i a) (p a j)) := (pl_fin' f2 f1 (by decide) (by decide)).mono (by decide)
  have := pl_mono1 F3 F4 Fo t
  omega
theorem withB_fin {n : Nat} {p : Mat} {i j : Nat} {o : Int} (hf : FinM n 1073741824 p) (hi : i ≤ n) (hj : j ≤ n) (fo : Fin' 1073741824 o) : FinM n 144115188075855872 (withB p i j o) := by
  intro a b ha hb
  unfold withB
  have f0 := (fP hf a b ha hb).mono (show (1073741824 : Int) ≤ 144115188075855872 by decide)
  have f1 := (pl_fin' (pl_fin' (fP hf a j ha hj) fo (by decide) (by decide)) (fP hf i b hi hb) (by decide) (by decide)).mono (show (1073741824 + 1073741824 + 1 + 1073741824 + 1 : Int) ≤ 144115188075855872 by decide)
  by_cases q : p a b ≤ pl (pl (p a j) o) (p i b)
  · rw [show min (p a b) (pl (pl (p a j) o) (p i b)) = p a b by omega]; exact f0
  · rw [show min (p a b) (pl (pl (p a j) o) (p i b)) = pl (pl (p a j) o) (p i b) by omega]; exact f1
theorem withB_tri {n : Nat} {p : Mat} {i j : Nat} {o : Int} (hf : FinM n 1073741824 p) (ho : One n p) (ht : Tri n (n + 1) p) (hi : i ≤ n) (hj : j ≤ n) (fo : Fin' 1073741824 o) (h : 1 ≤ pl (p i j) o) : Tri n (n + 1) (withB p i j o) := by
  intro c hc a b ha hb
  have cn : c ≤ n := by omega
  have ff : ∀ x y, x ≤ n → y ≤ n → F (p x y) := fun x y hx hy => (fP hf x y hx hy).mono (by decide)
  have Fo : F o := fo.mono (by decide)
  have fj : ∀ x, x ≤ n → Fin' 2147483649 (pl (p x j) o) := fun x hx => (pl_fin' (fP hf x j hx hj) fo (by decide) (by decide)).mono (by decide)
  have Fj : ∀ x, x ≤ n → F (pl (p x j) o) := fun x hx => (fj x hx).mono (by decide)
  have fk : ∀ x y, x ≤ n → y ≤ n → Fin' 3221225474 (pl (pl (p x j) o) (p i y)) := fun x y hx hy => (pl_fin' (fj x hx) (fP hf i y hi hy) (by decide) (by decide)).mono (by decide)
  have Fk : ∀ x y, x ≤ n → y ≤ n → F (pl (pl (p x j) o) (p i y)) := fun x y hx hy => (fk x y hx hy).mono (by decide)
  have fp : ∀ x y z u, x ≤ n → y ≤ n → z ≤ n → u ≤ n → Fin' 2147483649 (pl (p x y) (p z u)) := fun x y z u h1 h2 h3 h4 => (pl_fin' (fP hf x y h1 h2) (fP hf z u h3 h4) (by decide) (by decide)).mono (by decide)
  unfold withB
  have t1 := ht c hc a b ha hb
  have t2 := ht c hc a j ha hj
  have t3 := ht c hc i b hi hb
  have t4 := ht c hc i j hi hj
  by_cases q1 : p a c ≤ pl (pl (p a j) o) (p i c)
  · rw [show min (p a c) (pl (pl (p a j) o) (p i c)) = p a c by omega]
    by_cases q2 : p c b ≤ pl (pl (p c j) o) (p i b)
    · rw [show min (p c b) (pl (pl (p c j) o) (p i b)) = p c b by omega]
      omega
    · rw [show min (p c b) (pl (pl (p c j) o) (p i b)) = pl (pl (p c j) o) (p i b) by omega]
      have e : pl (p a c) (pl (pl (p c j) o) (p i b)) = pl (pl (pl (p a c) (p c j)) o) (p i b) := by
        rw [← pl_assoc (ff a c ha cn) (Fj c cn) (ff i b hi hb), ← pl_assoc (ff a c ha cn) (ff c j cn hj) Fo]
      rw [e]
      have m1 := pl_mono1 (ff a j ha hj) ((fp a c c j ha cn cn hj).mono (by decide)) Fo t2
      have m2 := pl_mono1 (Fj a ha) ((pl_fin' (fp a c c j ha cn cn hj) fo (by decide) (by decide)).mono (by decide)) (ff i b hi hb) m1
      omega
  · rw [show min (p a c) (pl (pl (p a j) o) (p i c)) = pl (pl (p a j) o) (p i c) by omega]
    by_cases q2 : p c b ≤ pl (pl (p c j) o) (p i b)
    · rw [show min (p c b) (pl (pl (p c j) o) (p i b)) = p c b by omega]
      rw [pl_assoc (Fj a ha) (ff i c hi cn) (ff c b cn hb)]
      have m1 := pl_mono2 (ff i b hi hb) ((fp i c c b hi cn cn hb).mono (by decide)) (Fj a ha) t3
      omega
    · rw [show min (p c b) (pl (pl (p c j) o) (p i b)) = pl (pl (p c j) o) (p i b) by omega]
      have e : pl (pl (pl (p a j) o) (p i c)) (pl (pl (p c j) o) (p i b)) = pl (pl (p a j) o) (pl (pl (pl (p i c) (p c j)) o) (p i b)) := by
        rw [pl_assoc (Fj a ha) (ff i c hi cn) (Fk c b cn hb), ← pl_assoc (ff i c hi cn) (Fj c cn) (ff i b hi hb), ← pl_assoc (ff i c hi cn) (ff c j cn hj) Fo]
      rw [e]
      have g1 : Fin' 2147483649 (pl (p i c) (p c j)) := fp i c c j hi cn cn hj
      have m1 := pl_mono1 (ff i j hi hj) (g1.mono (by decide)) Fo t4
      have g2 : Fin' 3221225474 (pl (pl (p i c) (p c j)) o) := (pl_fin' g1 fo (by decide) (by decide)).mono (by decide)
      have m2 : 1 ≤ pl (pl (p i c) (p c j)) o := by omega
      have m3 := pl_mono1 (a := 1) (.inr (by decide)) (g2.mono (by decide)) (ff i b hi hb) m2
      rw [one_pl (ff i b hi hb)] at m3
      have g3 : Fin' 4294967299 (pl (pl (pl (p i c) (p c j)) o) (p i b)) := (pl_fin' g2 (fP hf i b hi hb) (by decide) (by decide)).mono (by decide)
      have m4 := pl_mono2 (ff i b hi hb) (g3.mono (by decide)) (Fj a ha) m3
      omega
/-- A bound more that does not go against the opposite one leaves a valuation. -/
theorem close_withB {n : Nat} {p r : Mat} {i j : Nat} {o : Int} (hn : n ≤ 8) (hf : FinM n 1073741824 p) (ho : One n p) (ht : Tri n (n + 1) p) (hi : i ≤ n) (hj : j ≤ n) (fo : Fin' 1073741824 o) (h : 1 ≤ pl (p i j) o)
    (fr : FinM n (Kb 0) r) (or : One n r) (hr : ∀ a b, a ≤ n → b ≤ n → r a b = if a = j ∧ b = i then min (p a b) o else p a b) : ∃ q, closeR n r = some q := by
  have le : ∀ a b, a ≤ n → b ≤ n → withB p i j o a b ≤ r a b := fun a b ha hb => by
    rw [hr a b ha hb]
    unfold withB
    split
    · rename_i e
      obtain ⟨rfl, rfl⟩ := e
      rw [ho a hj, ho b hi, one_pl (fo.mono (by decide)), pl_one (fo.mono (by decide))]
      omega
    · omega
  obtain ⟨q, e, _⟩ := rounds_above hn fr or (withB_fin hf hi hj fo) (withB_one hf ho ht hi hj fo h) (withB_tri hf ho ht hi hj fo h) le (n + 1) (Nat.le_refl _)
  refine ⟨q, ?_⟩
  unfold closeR
  rw [or.ok]
  exact e
end Go.Proofs.Ytohkbjkfpnhggaa

/-
  Which zone a matrix makes hangs on the closed matrices below it alone.
-/
namespace Go.Proofs.Ytohkbjkfpnhggaa
open Go.RowKit
set_option linter.unusedVariables false
/-- A closed matrix. -/
structure Cl (n : Nat) (q : Mat) : Prop where
  fin : FinM n 144115188075855872 q
  one : One n q
  tri : Tri n (n + 1) q
def Le (n : Nat) (q r : Mat) : Prop := ∀ i j, i ≤ n → j ≤ n → q i j ≤ r i j
/-- A matrix that may be closed. -/
structure Ok (n : Nat) (r : Mat) : Prop where
  fin : FinM n (Kb 0) r
  diag : ∀ i, i ≤ n → r i i ≤ 1
theorem Rounds.cl {n : Nat} {r p : Mat} (hn : n ≤ 8) (h : Rounds n (n + 1) r p) : Cl n p := ⟨fin_mono h.fin (Kb_bd (n + 1) (by omega)).2, h.one, h.tri⟩
theorem one_of {n : Nat} {q r : Mat} (hq : Cl n q) (hr : Ok n r) (h : Le n q r) : One n r := fun i hi => by
  have := hq.one i hi
  have := h i i hi hi
  have := hr.diag i hi
  omega
/-- The greatest closed matrix below. -/
theorem close_above {n : Nat} {q r : Mat} (hn : n ≤ 8) (hq : Cl n q) (hr : Ok n r) (h : Le n q r) : ∃ p, closeR n r = some p ∧ Le n q p := by
  have o := one_of hq hr h
  obtain ⟨p, hp, hl⟩ := rounds_above hn hr.fin o hq.fin hq.one hq.tri h (n + 1) (Nat.le_refl _)
  refine ⟨p, ?_, hl⟩
  unfold closeR
  rw [o.ok]
  exact hp
theorem narAll_congr {n : Nat} {p q : Mat} (h : ∀ i j, i ≤ n → j ≤ n → p i j = q i j) : ∀ m, m ≤ (n + 1) * (n + 1) → narAll n p m = narAll n q m
  | 0, _ => rfl
  | m + 1, hm => by
    have d1 : m / (n + 1) ≤ n := by have := Nat.div_lt_of_lt_mul (show m < (n + 1) * (n + 1) by omega); omega
    have d2 : m % (n + 1) ≤ n := by have := Nat.mod_lt m (show 0 < n + 1 by omega); omega
    simp only [narAll, narAll_congr h m (by omega), flat, h _ _ d1 d2]
theorem cellsUpto_congr {n : Nat} {p q : Mat} (h : ∀ i j, i ≤ n → j ≤ n → p i j = q i j) (m : Nat) (hm : m ≤ (n + 1) * (n + 1)) : cellsUpto n p m = cellsUpto n q m := by
  funext k
  unfold cellsUpto
  split
  · rename_i hk
    have d1 : k / (n + 1) ≤ n := by have := Nat.div_lt_of_lt_mul (show k < (n + 1) * (n + 1) by omega); omega
    have d2 : k % (n + 1) ≤ n := by have := Nat.mod_lt k (show 0 < n + 1 by omega); omega
    simp only [flat, h _ _ d1 d2]
  · rfl
theorem zone_same {n : Nat} {r s : Mat} (hn : n ≤ 8) (hr : Ok n r) (hs : Ok n s) (H : ∀ q, Cl n q → (Le n q r ↔ Le n q s)) : zoneR n r = zoneR n s := by
  have half : ∀ {r s : Mat}, Ok n r → Ok n s → (∀ q, Cl n q → (Le n q r ↔ Le n q s)) → ∀ p, closeR n r = some p → ∃ q, closeR n s = some q ∧ Le n p q := by
    intro r s hr hs H p e
    have R := close_rounds hn hr.fin hr.diag e
    exact close_above hn (R.cl hn) hs ((H p (R.cl hn)).1 R.le)
  cases e : closeR n r with
  | none =>
    cases e2 : closeR n s with
    | none => simp [zoneR, e, e2]
    | some q =>
      obtain ⟨p, hp, -⟩ := half hs hr (fun q hq => (H q hq).symm) q e2
      rw [hp] at e
      cases e
  | some p =>
    obtain ⟨q, e2, h1⟩ := half hr hs H p e
    obtain ⟨p', e3, h2⟩ := half hs hr (fun q hq => (H q hq).symm) q e2
    rw [e] at e3
    cases e3
    have eq : ∀ i j, i ≤ n → j ≤ n → p i j = q i j := fun i j hi hj => Int.le_antisymm (h1 i j hi hj) (h2 i j hi hj)
    simp [zoneR, e, e2, narAll_congr eq _ (Nat.le_refl _), cellsUpto_congr eq _ (Nat.le_refl _)]
theorem tgV_narr {s q : Int} (hs : s = opn ∨ s = 1) (le : q ≤ s) (ok : narOk q = true) : tgV s (narB q) = q := by
  have ho := opn_val
  by_cases e : q = opn
  · have : narB q = 2147483647 := by unfold narB; rw [if_pos e]
    rw [this]
    unfold tgV
    rw [if_pos rfl]
    omega
  · have h' : ¬ (q < -536870912 ∨ 536870913 < q) := by unfold narOk at ok; simpa [e] using ok
    have : narB q = q := by unfold narB; rw [if_neg e, if_neg h']
    rw [this]
    unfold tgV
    rw [if_neg (by omega)]
    omega
theorem nl_get (n : Nat) (p : Mat) (m i j : Nat) (hj : j ≤ n) (h : i * (n + 1) + j < m) : (nl n p m).getD (i * (n + 1) + j) 0 = narB (p i j) := by
  simp [nl, List.getD, h, flat_at n p i j hj]
theorem nl_right (n : Nat) (p : Mat) (m : Nat) : RightL m (nl n p m) := fun k hk => by
  have e : (nl n p m).getD k 0 = narB (flat n p k) := by simp [nl, List.getD, hk]
  rw [e]
  unfold narB
  split
  · exact .inl rfl
  · split
    · exact .inr ⟨by omega, by omega⟩
    · exact .inr ⟨by omega, by omega⟩
theorem drf_ok (n m : Nat) (l : List Int) (hm : m = (n + 1) * (n + 1)) (hr : RightL m l) : Ok n (drf n m l) := ⟨drf_fin n m l hm hr, drf_diag n m l hm hr⟩
/-- What closes once and has first bounds that may be is the zone of its own narrowed cells. -/
theorem zone_again {n m : Nat} {r p : Mat} (hn : n ≤ 8) (hm : m = (n + 1) * (n + 1)) (hr : Ok n r) (h0 : ∀ j, j ≤ n → r 0 j ≤ 1) (e : closeR n r = some p) (na : narAll n p m = true) : zoneR n (drf n m (nl n p m)) = zoneR n r := by
  have R := close_rounds hn hr.fin hr.diag e
  have same : ∀ i j, i ≤ n → j ≤ n → drf n m (nl n p m) i j = p i j := fun i j hi hj => by
    have lt : i * (n + 1) + j < m := by rw [hm]; exact pos_lt hi hj
    rw [drf_at n m _ hm i j hi hj, nl_get n p m i j hj lt]
    have ok := narAll_at na (i * (n + 1) + j) lt
    rw [flat_at n p i j hj] at ok
    refine tgV_narr (by unfold startV; split; exact .inl rfl; exact .inr rfl) ?_ ok
    have le := R.le i j hi hj
    unfold startV
    split
    · have f := (fin_mono R.fin (Kb_bd (n + 1) (by omega)).2) i j hi hj
      have ho := opn_val
      unfold Fin' at f
      omega
    · rename_i q
      by_cases i0 : i = 0
      · subst i0
        have := h0 j hj
        omega
      · obtain rfl : i = j := by omega
        have := R.one i hi
        omega
  refine zone_same hn (drf_ok n m _ hm (nl_right n p m)) hr fun q hq => ⟨fun h i j hi hj => ?_, fun h i j hi hj => ?_⟩
  · have := h i j hi hj
    rw [same i j hi hj] at this
    exact Int.le_trans this (R.le i j hi hj)
  · rw [same i j hi hj]
    obtain ⟨p', e', hl⟩ := close_above hn hq hr h
    rw [e] at e'
    cases e'
    exact hl i j hi hj
end Go.Proofs.Ytohkbjkfpnhggaa

/-
  What becomes of zones by both ways, in numbers: the cells of a zone, Up, Down.
-/
namespace Go.Proofs.Ytohkbjkfpnhggaa
open Go.RowKit
set_option linter.unusedVariables false
/-- The closed form behind a zone's cells. -/
structure FullC (n m : Nat) (p : Mat) (c : Row) : Prop where
  cl : Cl n p
  low : ∀ j, j ≤ n → p 0 j ≤ 1
  nar : narAll n p m = true
  cells : c = cellsUpto n p m
def ZC (n m : Nat) (c : Row) : Prop := c = (fun _ => 0) ∨ ∃ p, FullC n m p c
theorem zc_of {n m : Nat} {r : Mat} {c : Row} (hn : n ≤ 8) (hm : m = (n + 1) * (n + 1)) (hr : Ok n r) (h0 : ∀ j, j ≤ n → r 0 j ≤ 1) (hz : zoneR n r = some c) : ZC n m c := by
  unfold zoneR at hz
  rw [← hm] at hz
  cases e : closeR n r with
  | none =>
    rw [e] at hz
    cases hz
    exact .inl rfl
  | some p =>
    rw [e] at hz
    have hz : (if narAll n p m = true then some (cellsUpto n p m) else none) = some c := hz
    split at hz
    · rename_i na
      cases hz
      have R := close_rounds hn hr.fin hr.diag e
      exact .inr ⟨p, R.cl hn, fun j hj => Int.le_trans (R.le 0 j (by omega) hj) (h0 j hj), na, rfl⟩
    · cases hz
theorem drf_low (n m : Nat) (l : List Int) (hm : m = (n + 1) * (n + 1)) (j : Nat) (hj : j ≤ n) : drf n m l 0 j ≤ 1 := by
  rw [drf_at n m l hm 0 j (by omega) hj]
  have : startV 0 j = 1 := by unfold startV; rw [if_neg (by omega)]
  rw [this]
  unfold tgV
  split <;> omega
theorem zc_drf {n m : Nat} {l : List Int} {c : Row} (hn : n ≤ 8) (hm : m = (n + 1) * (n + 1)) (hr : RightL m l) (hz : zoneR n (drf n m l) = some c) : ZC n m c :=
  zc_of hn hm (drf_ok n m l hm hr) (fun j hj => drf_low n m l hm j hj) hz
theorem FullC.ok {n m : Nat} {p : Mat} {c : Row} (h : FullC n m p c) (hm : m = (n + 1) * (n + 1)) {i j : Nat} (hi : i ≤ n) (hj : j ≤ n) : narOk (p i j) = true := by
  have := narAll_at h.nar (i * (n + 1) + j) (by rw [hm]; exact pos_lt hi hj)
  rwa [flat_at n p i j hj] at this
theorem FullC.at {n m : Nat} {p : Mat} {c : Row} (h : FullC n m p c) (hm : m = (n + 1) * (n + 1)) {i j : Nat} (hi : i ≤ n) (hj : j ≤ n) : c (i * (n + 1) + j) = narB (p i j) := by
  rw [h.cells]
  unfold cellsUpto
  rw [if_pos (by rw [hm]; exact pos_lt hi hj), flat_at n p i j hj]
theorem narOk_cases {q : Int} (h : narOk q = true) : (q = opn ∧ narB q = 2147483647) ∨ (¬ q = opn ∧ narB q = q ∧ -536870912 ≤ q ∧ q ≤ 536870913) := by
  by_cases e : q = opn
  · exact .inl ⟨e, by unfold narB; rw [if_pos e]⟩
  · have h' : ¬ (q < -536870912 ∨ 536870913 < q) := by unfold narOk at h; simpa [e] using h
    exact .inr ⟨e, by unfold narB; rw [if_neg e, if_neg h'], by omega, by omega⟩
theorem wide_nar {q : Int} (h : narOk q = true) : wideV (narB q) = q := by
  rcases narOk_cases h with ⟨h1, h2⟩ | ⟨h1, h2, h3, h4⟩
  · rw [h2, h1]; rfl
  · rw [h2]; unfold wideV; rw [if_neg (by omega)]
theorem FullC.le {n m : Nat} {p : Mat} {c : Row} (h : FullC n m p c) {i j : Nat} (hi : i ≤ n) (hj : j ≤ n) : p i j ≤ startV i j := by
  unfold startV
  have ho := opn_val
  split
  · have f := h.cl.fin i j hi hj
    unfold Fin' at f
    omega
  · by_cases i0 : i = 0
    · subst i0
      exact h.low j hj
    · obtain rfl : i = j := by omega
      have := h.cl.one i hi
      omega
theorem FullC.fin {n m : Nat} {p : Mat} {c : Row} (h : FullC n m p c) (hm : m = (n + 1) * (n + 1)) {i j : Nat} (hi : i ≤ n) (hj : j ≤ n) : Fin' 536870913 (p i j) := by
  rcases narOk_cases (h.ok hm hi hj) with ⟨h1, h2⟩ | ⟨h1, h2, h3, h4⟩
  · exact .inl h1
  · exact .inr ⟨by omega, by omega⟩
/-- The program's draft, closed in. -/
theorem pm_at (n m : Nat) (M : Mat) (hm : m = (n + 1) * (n + 1)) {i j : Nat} (hi : i ≤ n) (hj : j ≤ n) : drf n m (rowsL n M (n + 1)) i j = tgV (startV i j) (M i j) := by
  rw [drf_at n m _ hm i j hi hj, rowsL, listOf_get _ _ _ (pos_lt hi hj), flat_at n M i j hj]
def RightM (n : Nat) (M : Mat) : Prop := ∀ i j, i ≤ n → j ≤ n → M i j = 2147483647 ∨ (-536870912 ≤ M i j ∧ M i j ≤ 536870913)
theorem right_rows {n m : Nat} {M : Mat} (hm : m = (n + 1) * (n + 1)) (h : RightM n M) : RightL m (rowsL n M (n + 1)) := fun k hk => by
  rw [rowsL, listOf_get _ _ _ (by rw [← hm]; exact hk)]
  unfold flat
  rw [hm] at hk
  exact h _ _ (by have := Nat.div_lt_of_lt_mul hk; omega) (by have := Nat.mod_lt k (show 0 < n + 1 by omega); omega)
theorem allRight_rows {n m : Nat} {M : Mat} (hm : m = (n + 1) * (n + 1)) (h : RightM n M) : allRight (rowsL n M (n + 1)) m = true := by
  have : ∀ k, k ≤ m → allRight (rowsL n M (n + 1)) k = true := by
    intro k
    induction k with
    | zero => intro _; rfl
    | succ k ih =>
      intro hk
      simp only [allRight, ih (by omega), Bool.true_and]
      exact decide_eq_true (right_rows hm h k (by omega))
  exact this m (Nat.le_refl _)
theorem FullC.rightM {n m : Nat} {p : Mat} {c : Row} (h : FullC n m p c) (hm : m = (n + 1) * (n + 1)) : RightM n (oR n c m) := fun i j hi hj => by
  have e : oR n c m i j = narB (p i j) := by unfold oR; rw [if_pos ⟨hj, by rw [hm]; exact pos_lt hi hj⟩, h.at hm hi hj]
  rw [e]
  rcases narOk_cases (h.ok hm hi hj) with ⟨h1, h2⟩ | ⟨h1, h2, h3, h4⟩
  · exact .inl h2
  · exact .inr (by rw [h2]; omega)
theorem FullC.oR {n m : Nat} {p : Mat} {c : Row} (h : FullC n m p c) (hm : m = (n + 1) * (n + 1)) {i j : Nat} (hi : i ≤ n) (hj : j ≤ n) : Go.Proofs.Ytohkbjkfpnhggaa.oR n c m i j = narB (p i j) := by
  unfold Go.Proofs.Ytohkbjkfpnhggaa.oR
  rw [if_pos ⟨hj, by rw [hm]; exact pos_lt hi hj⟩, h.at hm hi hj]
theorem FullC.pm {n m : Nat} {p : Mat} {c : Row} (h : FullC n m p c) (hm : m = (n + 1) * (n + 1)) {i j : Nat} (hi : i ≤ n) (hj : j ≤ n) : tgV (startV i j) (Go.Proofs.Ytohkbjkfpnhggaa.oR n c m i j) = p i j := by
  rw [h.oR hm hi hj]
  exact tgV_narr (by unfold startV; split; exact .inl rfl; exact .inr rfl) (h.le hi hj) (h.ok hm hi hj)
theorem FullC.rowMat {n m : Nat} {p : Mat} {c : Row} (h : FullC n m p c) (hm : m = (n + 1) * (n + 1)) {i j : Nat} (hi : i ≤ n) (hj : j ≤ n) : Go.Proofs.Ytohkbjkfpnhggaa.rowMat n (listOf c m) i j = p i j := by
  unfold Go.Proofs.Ytohkbjkfpnhggaa.rowMat
  rw [if_pos ⟨hi, hj⟩, listOf_get _ _ _ (by rw [hm]; exact pos_lt hi hj), h.at hm hi hj, wide_nar (h.ok hm hi hj)]
theorem FullC.zero {n m : Nat} {p : Mat} {c : Row} (h : FullC n m p c) (hm : m = (n + 1) * (n + 1)) : c 0 = 1 := by
  have := h.at hm (i := 0) (j := 0) (by omega) (by omega)
  rw [h.cl.one 0 (by omega), show narB 1 = 1 by decide] at this
  simpa using this
theorem zone_hollow {n : Nat} {r : Mat} (h : r 0 0 < 1) : zoneR n r = some (fun _ => 0) := by
  have hd : diagOk n r (n + 1) = false := diagOk_false (c := 1) (n + 1) (by omega) (by simp [diagOk]; omega)
  unfold zoneR closeR
  rw [hd]
  rfl
theorem pm_hollow {n m : Nat} {M : Mat} (hm : m = (n + 1) * (n + 1)) (h : M 0 0 = 0) : zoneR n (drf n m (rowsL n M (n + 1))) = some (fun _ => 0) := by
  refine zone_hollow ?_
  rw [pm_at n m M hm (by omega) (by omega), h]
  decide
theorem ok_of {n : Nat} {r : Mat} (h : ∀ i j, i ≤ n → j ≤ n → Fin' 1073741824 (r i j)) (hd : ∀ i, i ≤ n → r i i ≤ 1) : Ok n r := ⟨h, hd⟩
theorem F_fin {x : Int} (h : Fin' 536870913 x) : Fin' 1073741824 x := h.mono (by omega)
/-! ### Up -/
def upRef (K : Nat) (r : Mat) : Mat := fun i j => if j = 0 ∧ 1 ≤ i ∧ i < K then opn else r i j
theorem up_same {n m : Nat} {p : Mat} {c : Row} (hn : n ≤ 8) (hm : m = (n + 1) * (n + 1)) (h : FullC n m p c) :
    RightM n (upM (n + 1) (oR n c m)) ∧ Ok n (upRef (n + 1) (rowMat n (listOf c m))) ∧ (∀ j, j ≤ n → upRef (n + 1) (rowMat n (listOf c m)) 0 j ≤ 1) ∧ zoneR n (drf n m (rowsL n (upM (n + 1) (oR n c m)) (n + 1))) = zoneR n (upRef (n + 1) (rowMat n (listOf c m))) := by
  have hR : RightM n (upM (n + 1) (oR n c m)) := fun i j hi hj => by
    unfold upM
    split
    · exact .inl rfl
    · exact h.rightM hm i j hi hj
  have hO : Ok n (upRef (n + 1) (rowMat n (listOf c m))) := by
    refine ok_of (fun i j hi hj => ?_) (fun i hi => ?_)
    · unfold upRef
      split
      · exact .inl rfl
      · rw [h.rowMat hm hi hj]; exact F_fin (h.fin hm hi hj)
    · unfold upRef
      rw [if_neg (by omega), h.rowMat hm hi hi]
      have := h.cl.one i hi
      omega
  refine ⟨hR, hO, fun j hj => ?_, ?_⟩
  · unfold upRef
    rw [if_neg (by omega), h.rowMat hm (by omega) hj]
    exact h.low j hj
  · have e : ∀ i j, i ≤ n → j ≤ n → drf n m (rowsL n (upM (n + 1) (oR n c m)) (n + 1)) i j = upRef (n + 1) (rowMat n (listOf c m)) i j := fun i j hi hj => by
      rw [pm_at n m _ hm hi hj]
      unfold upM upRef
      split
      · rename_i q
        have : startV i j = opn := by unfold startV; rw [if_pos (by omega)]; rfl
        rw [this]
        rfl
      · rw [h.pm hm hi hj, h.rowMat hm hi hj]
    refine zone_same hn (drf_ok n m _ hm (right_rows hm hR)) hO fun q hq => ⟨fun hl i j hi hj => ?_, fun hl i j hi hj => ?_⟩
    · rw [← e i j hi hj]; exact hl i j hi hj
    · rw [e i j hi hj]; exact hl i j hi hj
/-! ### Down -/
def dnV (r : Mat) (b : Nat) : Nat → Int
  | 0 => 1
  | J + 1 => if r (J + 1) b < dnV r b J then r (J + 1) b else dnV r b J
def dnRef (n K : Nat) (r : Mat) : Mat := fun i j => if i = 0 ∧ 1 ≤ j ∧ j < K then dnV r j n else r i j
theorem le_dnV (r : Mat) (b : Nat) (x : Int) : ∀ J, x ≤ dnV r b J ↔ (x ≤ 1 ∧ ∀ j, 1 ≤ j → j ≤ J → x ≤ r j b)
  | 0 => by
    simp [dnV]
    intro _ j h1 h2
    omega
  | J + 1 => by
    have ih := le_dnV r b x J
    have e : x ≤ dnV r b (J + 1) ↔ (x ≤ dnV r b J ∧ x ≤ r (J + 1) b) := by
      rw [show dnV r b (J + 1) = if r (J + 1) b < dnV r b J then r (J + 1) b else dnV r b J from rfl]
      split <;> omega
    rw [e, ih]
    constructor
    · rintro ⟨⟨h1, h2⟩, h3⟩
      refine ⟨h1, fun j j1 j2 => ?_⟩
      by_cases q : j = J + 1
      · subst q; exact h3
      · exact h2 j j1 (by omega)
    · rintro ⟨h1, h2⟩
      exact ⟨⟨h1, fun j j1 j2 => h2 j j1 (by omega)⟩, h2 (J + 1) (by omega) (by omega)⟩
theorem dnV_fin {r : Mat} {b : Nat} {K : Int} (hK : 1 ≤ K) : ∀ J, (∀ j, 1 ≤ j → j ≤ J → Fin' K (r j b)) → Fin' K (dnV r b J)
  | 0, _ => .inr ⟨by simp [dnV]; omega, by simp [dnV]; omega⟩
  | J + 1, h => by
    unfold dnV
    split
    · exact h (J + 1) (by omega) (by omega)
    · exact dnV_fin hK J fun j j1 j2 => h j j1 (by omega)
theorem dnV_congr {r s : Mat} {b : Nat} : ∀ J, (∀ j, 1 ≤ j → j ≤ J → r j b = s j b) → dnV r b J = dnV s b J
  | 0, _ => rfl
  | J + 1, h => by
    unfold dnV
    rw [dnV_congr J fun j j1 j2 => h j j1 (by omega), h (J + 1) (by omega) (by omega)]
theorem down_same {n m : Nat} {p : Mat} {c : Row} (hn : n ≤ 8) (hm : m = (n + 1) * (n + 1)) (h : FullC n m p c) :
    RightM n (downM (n + 1) (oR n c m)) ∧ Ok n (dnRef n (n + 1) (rowMat n (listOf c m))) ∧ (∀ j, j ≤ n → dnRef n (n + 1) (rowMat n (listOf c m)) 0 j ≤ 1) ∧ zoneR n (drf n m (rowsL n (downM (n + 1) (oR n c m)) (n + 1))) = zoneR n (dnRef n (n + 1) (rowMat n (listOf c m))) := by
  have hR : RightM n (downM (n + 1) (oR n c m)) := fun i j hi hj => by
    unfold downM
    split
    · exact .inr (by omega)
    · exact h.rightM hm i j hi hj
  have dn1 : ∀ (r : Mat) b J, dnV r b J ≤ 1 := fun r b J => ((le_dnV r b (dnV r b J) J).1 (Int.le_refl _)).1
  have hO : Ok n (dnRef n (n + 1) (rowMat n (listOf c m))) := by
    refine ok_of (fun i j hi hj => ?_) (fun i hi => ?_)
    · unfold dnRef
      split
      · exact dnV_fin (by omega) n fun k k1 k2 => by rw [h.rowMat hm k2 hj]; exact F_fin (h.fin hm k2 hj)
      · rw [h.rowMat hm hi hj]; exact F_fin (h.fin hm hi hj)
    · unfold dnRef
      rw [if_neg (by omega), h.rowMat hm hi hi]
      have := h.cl.one i hi
      omega
  refine ⟨hR, hO, fun j hj => ?_, ?_⟩
  · unfold dnRef
    split
    · exact dn1 _ _ _
    · rw [h.rowMat hm (by omega) hj]; exact h.low j hj
  · have e1 : ∀ i j, i ≤ n → j ≤ n → drf n m (rowsL n (downM (n + 1) (oR n c m)) (n + 1)) i j = if i = 0 ∧ 1 ≤ j then 1 else p i j := fun i j hi hj => by
      rw [pm_at n m _ hm hi hj]
      unfold downM
      by_cases q : i = 0 ∧ 1 ≤ j
      · rw [if_pos ⟨q.1, q.2, by omega⟩, if_pos q]
        have : startV i j = 1 := by unfold startV; rw [if_neg (by omega)]
        rw [this]
        rfl
      · rw [if_neg (by omega), if_neg q, h.pm hm hi hj]
    have e2 : ∀ i j, i ≤ n → j ≤ n → dnRef n (n + 1) (rowMat n (listOf c m)) i j = if i = 0 ∧ 1 ≤ j then dnV p j n else p i j := fun i j hi hj => by
      unfold dnRef
      by_cases q : i = 0 ∧ 1 ≤ j
      · rw [if_pos ⟨q.1, q.2, by omega⟩, if_pos q]
        exact dnV_congr n fun k k1 k2 => h.rowMat hm k2 hj
      · rw [if_neg (by omega), if_neg q, h.rowMat hm hi hj]
    refine zone_same hn (drf_ok n m _ hm (right_rows hm hR)) hO fun q hq => ⟨fun hl i j hi hj => ?_, fun hl i j hi hj => ?_⟩
    · rw [e2 i j hi hj]
      split
      · rename_i z
        obtain ⟨rfl, j1⟩ := z
        have l0 : ∀ k, 1 ≤ k → k ≤ n → q 0 k ≤ 1 := fun k k1 k2 => by
          have := hl 0 k (by omega) k2
          rw [e1 0 k (by omega) k2, if_pos ⟨rfl, k1⟩] at this
          exact this
        refine (le_dnV p j _ n).2 ⟨l0 j j1 hj, fun k k1 k2 => ?_⟩
        have t := hq.tri k (by omega) 0 j (by omega) hj
        have lk := hl k j k2 hj
        rw [e1 k j k2 hj, if_neg (by omega)] at lk
        have f1 : F (q 0 k) := (hq.fin 0 k (by omega) k2).mono (by decide)
        have f2 : F (q k j) := (hq.fin k j k2 hj).mono (by decide)
        have f3 : F (p k j) := (h.cl.fin k j k2 hj).mono (by decide)
        have f4 : F (1 : Int) := .inr ⟨by decide, by decide⟩
        have m1 := pl_mono f1 f2 f4 f3 (l0 k k1 k2) lk
        rw [one_pl f3] at m1
        omega
      · rename_i z
        have := hl i j hi hj
        rw [e1 i j hi hj, if_neg z] at this
        exact this
    · have l := hl i j hi hj
      rw [e2 i j hi hj] at l
      rw [e1 i j hi hj]
      split
      · rename_i z
        rw [if_pos z] at l
        exact Int.le_trans l (dn1 _ _ _)
      · rename_i z
        rw [if_neg z] at l
        exact l
end Go.Proofs.Ytohkbjkfpnhggaa

/-
  Limits: both ways of Constrain are one, in numbers; both tell the same.
-/
namespace Go.Proofs.Ytohkbjkfpnhggaa
open Go.RowKit
set_option linter.unusedVariables false
set_option maxRecDepth 100000
theorem limK_right {n : Nat} {L : Lims} {M : Mat} (h : RightM n M) : ∀ K, bndA n L K = true → rgtA L K = true → RightM n (limO L K M)
  | 0, _, _ => h
  | K + 1, hb, hr => fun i j hi hj => by
    have hb' : bndA n L K = true := by simp only [bndA, Bool.and_eq_true] at hb; exact hb.1
    have hr' : rgtA L K = true ∧ rightB (L.b K) = true := by simpa only [rgtA, Bool.and_eq_true] using hr
    have ih := limK_right h K hb' hr'.1 i j hi hj
    have rb := hr'.2
    simp only [rightB, decide_eq_true_eq] at rb
    have e : limO L (K + 1) M i j = limM (limO L K M) (L.i K).toNat (L.j K).toNat (L.b K) i j := rfl
    rw [e]
    unfold limM upd
    clear e
    split
    · rename_i e
      obtain ⟨rfl, rfl⟩ := e
      omega
    · exact ih
theorem tg_min {s x z : Int} (hz : ¬ z = 2147483647) (hx : x = 2147483647 ∨ x ≤ 536870913) (z1 : z ≤ 536870913) : tgV s (min x z) = if z < tgV s x then z else tgV s x := by
  unfold tgV
  rw [if_neg (by omega)]
  by_cases e : x = 2147483647
  · rw [if_pos e]
    split <;> omega
  · rw [if_neg e]
    split <;> omega
theorem limK_zero {L : Lims} {M : Mat} (h : M 0 0 ≤ 0) : ∀ K, limO L K M 0 0 ≤ 0
  | 0 => h
  | K + 1 => by
    have ih := limK_zero (L := L) h K
    show limM (limO L K M) _ _ _ 0 0 ≤ 0
    unfold limM upd
    split
    · rename_i e
      rw [← e.1, ← e.2]
      omega
    · exact ih
theorem pm_hollow' {n m : Nat} {M : Mat} (hm : m = (n + 1) * (n + 1)) (h : M 0 0 ≤ 0) : zoneR n (drf n m (rowsL n M (n + 1))) = some (fun _ => 0) := by
  refine zone_hollow ?_
  rw [pm_at n m M hm (by omega) (by omega)]
  unfold tgV
  rw [if_neg (by omega)]
  omega
end Go.Proofs.Ytohkbjkfpnhggaa
