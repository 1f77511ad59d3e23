/-
  Which zone a matrix makes hangs on the closed matrices below it alone.
-/
import Derived.Test.YtdkolgndebkloaaGreatDoorZc
import Derived.Test.YtdkolgndebkloaaGreatDoorZb
namespace Go.Proofs.YtdkolgndebkloaaGreatDoor
open Go.RowKit
set_option linter.unusedVariables false
/-- A closed matrix. -/
structure Cl (n : Nat) (q : Mat) : Prop where
  fin : FinM n 144115188075855872 q
  one : One n q
  tri : Tri n (n + 1) q
def Le (n : Nat) (q r : Mat) : Prop := ∀ i j, i ≤ n → j ≤ n → q i j ≤ r i j
/-- A matrix that may be closed. -/
structure Ok (n : Nat) (r : Mat) : Prop where
  fin : FinM n (Kb 0) r
  diag : ∀ i, i ≤ n → r i i ≤ 1
theorem Rounds.cl {n : Nat} {r p : Mat} (hn : n ≤ 8) (h : Rounds n (n + 1) r p) : Cl n p := ⟨fin_mono h.fin (Kb_bd (n + 1) (by omega)).2, h.one, h.tri⟩
theorem one_of {n : Nat} {q r : Mat} (hq : Cl n q) (hr : Ok n r) (h : Le n q r) : One n r := fun i hi => by
  have := hq.one i hi
  have := h i i hi hi
  have := hr.diag i hi
  omega
/-- The greatest closed matrix below. -/
theorem close_above {n : Nat} {q r : Mat} (hn : n ≤ 8) (hq : Cl n q) (hr : Ok n r) (h : Le n q r) : ∃ p, closeR n r = some p ∧ Le n q p := by
  have o := one_of hq hr h
  obtain ⟨p, hp, hl⟩ := rounds_above hn hr.fin o hq.fin hq.one hq.tri h (n + 1) (Nat.le_refl _)
  refine ⟨p, ?_, hl⟩
  unfold closeR
  rw [o.ok]
  exact hp
theorem narAll_congr {n : Nat} {p q : Mat} (h : ∀ i j, i ≤ n → j ≤ n → p i j = q i j) : ∀ m, m ≤ (n + 1) * (n + 1) → narAll n p m = narAll n q m
  | 0, _ => rfl
  | m + 1, hm => by
    have d1 : m / (n + 1) ≤ n := by have := Nat.div_lt_of_lt_mul (show m < (n + 1) * (n + 1) by omega); omega
    have d2 : m % (n + 1) ≤ n := by have := Nat.mod_lt m (show 0 < n + 1 by omega); omega
    simp only [narAll, narAll_congr h m (by omega), flat, h _ _ d1 d2]
theorem cellsUpto_congr {n : Nat} {p q : Mat} (h : ∀ i j, i ≤ n → j ≤ n → p i j = q i j) (m : Nat) (hm : m ≤ (n + 1) * (n + 1)) : cellsUpto n p m = cellsUpto n q m := by
  funext k
  unfold cellsUpto
  split
  · rename_i hk
    have d1 : k / (n + 1) ≤ n := by have := Nat.div_lt_of_lt_mul (show k < (n + 1) * (n + 1) by omega); omega
    have d2 : k % (n + 1) ≤ n := by have := Nat.mod_lt k (show 0 < n + 1 by omega); omega
    simp only [flat, h _ _ d1 d2]
  · rfl
theorem zone_same {n : Nat} {r s : Mat} (hn : n ≤ 8) (hr : Ok n r) (hs : Ok n s) (H : ∀ q, Cl n q → (Le n q r ↔ Le n q s)) : zoneR n r = zoneR n s := by
  have half : ∀ {r s : Mat}, Ok n r → Ok n s → (∀ q, Cl n q → (Le n q r ↔ Le n q s)) → ∀ p, closeR n r = some p → ∃ q, closeR n s = some q ∧ Le n p q := by
    intro r s hr hs H p e
    have R := close_rounds hn hr.fin hr.diag e
    exact close_above hn (R.cl hn) hs ((H p (R.cl hn)).1 R.le)
  cases e : closeR n r with
  | none =>
    cases e2 : closeR n s with
    | none => simp [zoneR, e, e2]
    | some q =>
      obtain ⟨p, hp, -⟩ := half hs hr (fun q hq => (H q hq).symm) q e2
      rw [hp] at e
      cases e
  | some p =>
    obtain ⟨q, e2, h1⟩ := half hr hs H p e
    obtain ⟨p', e3, h2⟩ := half hs hr (fun q hq => (H q hq).symm) q e2
    rw [e] at e3
    cases e3
    have eq : ∀ i j, i ≤ n → j ≤ n → p i j = q i j := fun i j hi hj => Int.le_antisymm (h1 i j hi hj) (h2 i j hi hj)
    simp [zoneR, e, e2, narAll_congr eq _ (Nat.le_refl _), cellsUpto_congr eq _ (Nat.le_refl _)]
theorem tgV_narr {s q : Int} (hs : s = opn ∨ s = 1) (le : q ≤ s) (ok : narOk q = true) : tgV s (narB q) = q := by
  have ho := opn_val
  by_cases e : q = opn
  · have : narB q = 2147483647 := by unfold narB; rw [if_pos e]
    rw [this]
    unfold tgV
    rw [if_pos rfl]
    omega
  · have h' : ¬ (q < -536870912 ∨ 536870913 < q) := by unfold narOk at ok; simpa [e] using ok
    have : narB q = q := by unfold narB; rw [if_neg e, if_neg h']
    rw [this]
    unfold tgV
    rw [if_neg (by omega)]
    omega
theorem nl_get (n : Nat) (p : Mat) (m i j : Nat) (hj : j ≤ n) (h : i * (n + 1) + j < m) : (nl n p m).getD (i * (n + 1) + j) 0 = narB (p i j) := by
  simp [nl, List.getD, h, flat_at n p i j hj]
theorem nl_right (n : Nat) (p : Mat) (m : Nat) : RightL m (nl n p m) := fun k hk => by
  have e : (nl n p m).getD k 0 = narB (flat n p k) := by simp [nl, List.getD, hk]
  rw [e]
  unfold narB
  split
  · exact .inl rfl
  · split
    · exact .inr ⟨by omega, by omega⟩
    · exact .inr ⟨by omega, by omega⟩
theorem drf_ok (n m : Nat) (l : List Int) (hm : m = (n + 1) * (n + 1)) (hr : RightL m l) : Ok n (drf n m l) := ⟨drf_fin n m l hm hr, drf_diag n m l hm hr⟩
/-- What closes once and has first bounds that may be is the zone of its own narrowed cells. -/
theorem zone_again {n m : Nat} {r p : Mat} (hn : n ≤ 8) (hm : m = (n + 1) * (n + 1)) (hr : Ok n r) (h0 : ∀ j, j ≤ n → r 0 j ≤ 1) (e : closeR n r = some p) (na : narAll n p m = true) : zoneR n (drf n m (nl n p m)) = zoneR n r := by
  have R := close_rounds hn hr.fin hr.diag e
  have same : ∀ i j, i ≤ n → j ≤ n → drf n m (nl n p m) i j = p i j := fun i j hi hj => by
    have lt : i * (n + 1) + j < m := by rw [hm]; exact pos_lt hi hj
    rw [drf_at n m _ hm i j hi hj, nl_get n p m i j hj lt]
    have ok := narAll_at na (i * (n + 1) + j) lt
    rw [flat_at n p i j hj] at ok
    refine tgV_narr (by unfold startV; split; exact .inl rfl; exact .inr rfl) ?_ ok
    have le := R.le i j hi hj
    unfold startV
    split
    · have f := (fin_mono R.fin (Kb_bd (n + 1) (by omega)).2) i j hi hj
      have ho := opn_val
      unfold Fin' at f
      omega
    · rename_i q
      by_cases i0 : i = 0
      · subst i0
        have := h0 j hj
        omega
      · obtain rfl : i = j := by omega
        have := R.one i hi
        omega
  refine zone_same hn (drf_ok n m _ hm (nl_right n p m)) hr fun q hq => ⟨fun h i j hi hj => ?_, fun h i j hi hj => ?_⟩
  · have := h i j hi hj
    rw [same i j hi hj] at this
    exact Int.le_trans this (R.le i j hi hj)
  · rw [same i j hi hj]
    obtain ⟨p', e', hl⟩ := close_above hn hq hr h
    rw [e] at e'
    cases e'
    exact hl i j hi hj
end Go.Proofs.YtdkolgndebkloaaGreatDoor

/-
  What becomes of zones by both ways, in numbers: the cells of a zone, Up, Down.
-/
namespace Go.Proofs.YtdkolgndebkloaaGreatDoor
open Go.RowKit
set_option linter.unusedVariables false
/-- The closed form behind a zone's cells. -/
structure FullC (n m : Nat) (p : Mat) (c : Row) : Prop where
  cl : Cl n p
  low : ∀ j, j ≤ n → p 0 j ≤ 1
  nar : narAll n p m = true
  cells : c = cellsUpto n p m
def ZC (n m : Nat) (c : Row) : Prop := c = (fun _ => 0) ∨ ∃ p, FullC n m p c
theorem zc_of {n m : Nat} {r : Mat} {c : Row} (hn : n ≤ 8) (hm : m = (n + 1) * (n + 1)) (hr : Ok n r) (h0 : ∀ j, j ≤ n → r 0 j ≤ 1) (hz : zoneR n r = some c) : ZC n m c := by
  unfold zoneR at hz
  rw [← hm] at hz
  cases e : closeR n r with
  | none =>
    rw [e] at hz
    cases hz
    exact .inl rfl
  | some p =>
    rw [e] at hz
    have hz : (if narAll n p m = true then some (cellsUpto n p m) else none) = some c := hz
    split at hz
    · rename_i na
      cases hz
      have R := close_rounds hn hr.fin hr.diag e
      exact .inr ⟨p, R.cl hn, fun j hj => Int.le_trans (R.le 0 j (by omega) hj) (h0 j hj), na, rfl⟩
    · cases hz
theorem drf_low (n m : Nat) (l : List Int) (hm : m = (n + 1) * (n + 1)) (j : Nat) (hj : j ≤ n) : drf n m l 0 j ≤ 1 := by
  rw [drf_at n m l hm 0 j (by omega) hj]
  have : startV 0 j = 1 := by unfold startV; rw [if_neg (by omega)]
  rw [this]
  unfold tgV
  split <;> omega
theorem zc_drf {n m : Nat} {l : List Int} {c : Row} (hn : n ≤ 8) (hm : m = (n + 1) * (n + 1)) (hr : RightL m l) (hz : zoneR n (drf n m l) = some c) : ZC n m c :=
  zc_of hn hm (drf_ok n m l hm hr) (fun j hj => drf_low n m l hm j hj) hz
theorem FullC.ok {n m : Nat} {p : Mat} {c : Row} (h : FullC n m p c) (hm : m = (n + 1) * (n + 1)) {i j : Nat} (hi : i ≤ n) (hj : j ≤ n) : narOk (p i j) = true := by
  have := narAll_at h.nar (i * (n + 1) + j) (by rw [hm]; exact pos_lt hi hj)
  rwa [flat_at n p i j hj] at this
theorem FullC.at {n m : Nat} {p : Mat} {c : Row} (h : FullC n m p c) (hm : m = (n + 1) * (n + 1)) {i j : Nat} (hi : i ≤ n) (hj : j ≤ n) : c (i * (n + 1) + j) = narB (p i j) := by
  rw [h.cells]
  unfold cellsUpto
  rw [if_pos (by rw [hm]; exact pos_lt hi hj), flat_at n p i j hj]
theorem narOk_cases {q : Int} (h : narOk q = true) : (q = opn ∧ narB q = 2147483647) ∨ (¬ q = opn ∧ narB q = q ∧ -536870912 ≤ q ∧ q ≤ 536870913) := by
  by_cases e : q = opn
  · exact .inl ⟨e, by unfold narB; rw [if_pos e]⟩
  · have h' : ¬ (q < -536870912 ∨ 536870913 < q) := by unfold narOk at h; simpa [e] using h
    exact .inr ⟨e, by unfold narB; rw [if_neg e, if_neg h'], by omega, by omega⟩
theorem wide_nar {q : Int} (h : narOk q = true) : wideV (narB q) = q := by
  rcases narOk_cases h with ⟨h1, h2⟩ | ⟨h1, h2, h3, h4⟩
  · rw [h2, h1]; rfl
  · rw [h2]; unfold wideV; rw [if_neg (by omega)]
theorem FullC.le {n m : Nat} {p : Mat} {c : Row} (h : FullC n m p c) {i j : Nat} (hi : i ≤ n) (hj : j ≤ n) : p i j ≤ startV i j := by
  unfold startV
  have ho := opn_val
  split
  · have f := h.cl.fin i j hi hj
    unfold Fin' at f
    omega
  · by_cases i0 : i = 0
    · subst i0
      exact h.low j hj
    · obtain rfl : i = j := by omega
      have := h.cl.one i hi
      omega
theorem FullC.fin {n m : Nat} {p : Mat} {c : Row} (h : FullC n m p c) (hm : m = (n + 1) * (n + 1)) {i j : Nat} (hi : i ≤ n) (hj : j ≤ n) : Fin' 536870913 (p i j) := by
  rcases narOk_cases (h.ok hm hi hj) with ⟨h1, h2⟩ | ⟨h1, h2, h3, h4⟩
  · exact .inl h1
  · exact .inr ⟨by omega, by omega⟩
theorem FullC.zero {n m : Nat} {p : Mat} {c : Row} (h : FullC n m p c) (hm : m = (n + 1) * (n + 1)) : c 0 = 1 := by
  have := h.at hm (i := 0) (j := 0) (by omega) (by omega)
  rw [h.cl.one 0 (by omega), show narB 1 = 1 by decide] at this
  simpa using this
theorem zone_hollow {n : Nat} {r : Mat} (h : r 0 0 < 1) : zoneR n r = some (fun _ => 0) := by
  have hd : diagOk n r (n + 1) = false := diagOk_false (c := 1) (n + 1) (by omega) (by simp [diagOk]; omega)
  unfold zoneR closeR
  rw [hd]
  rfl
theorem ok_of {n : Nat} {r : Mat} (h : ∀ i j, i ≤ n → j ≤ n → Fin' 1073741824 (r i j)) (hd : ∀ i, i ≤ n → r i i ≤ 1) : Ok n r := ⟨h, hd⟩
theorem F_fin {x : Int} (h : Fin' 536870913 x) : Fin' 1073741824 x := h.mono (by omega)
end Go.Proofs.YtdkolgndebkloaaGreatDoor
