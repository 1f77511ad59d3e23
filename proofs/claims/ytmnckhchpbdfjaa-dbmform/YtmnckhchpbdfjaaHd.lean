/-
  The contract of beyond of the statements of dbm.
-/
import Derived.Test.YtmnckhchpbdfjaaHc
import Derived.Test.YtmnckhchpbdfjaaEi
namespace Go.Proofs.Ytmnckhchpbdfjaa
open Go.RowKit Go.Shelf
set_option linter.unusedVariables false
set_option maxRecDepth 100000
/-- A zone that is not empty: its closed draft, and its cells. -/
structure Full (n m : Nat) (p : Mat) (c : Row) : Prop where
  fin : FinM n 1073741824 p
  one : One n p
  tri : Tri n (n + 1) p
  st : ∀ a b, a ≤ n → b ≤ n → p a b ≤ startV a b
  out : ∀ a b, ¬ (a ≤ n ∧ b ≤ n) → p a b = startR n (n + 1) 0 a b
  nar : narAll n p m = true
  cells : c = cellsUpto n p m
theorem Full.ok {n m : Nat} {p : Mat} {c : Row} (h : Full n m p c) (hm : m = (n + 1) * (n + 1)) (a b : Nat) (ha : a ≤ n) (hb : b ≤ n) : narOk (p a b) = true := by
  have := narAll_at h.nar (a * (n + 1) + b) (by rw [hm]; exact pos_lt ha hb)
  rw [flat_at n p a b hb] at this
  exact this
theorem Full.closed {n m : Nat} {p : Mat} {c : Row} (h : Full n m p c) : Closed n p :=
  ⟨fin_mono h.fin (by decide), h.one, h.tri, fun j hj => by
    have := h.st 0 j (by omega) hj
    have e : startV 0 j = 1 := by unfold startV; rw [if_neg (by omega)]
    omega⟩
theorem Full.at {n m : Nat} {p : Mat} {c : Row} (h : Full n m p c) (hm : m = (n + 1) * (n + 1)) (a b : Nat) (ha : a ≤ n) (hb : b ≤ n) : c (a * (n + 1) + b) = narB (p a b) := by
  have := cells_at n m p hm a b ha hb
  rw [listOf_get _ _ _ (by rw [hm]; exact pos_lt ha hb), ← h.cells] at this
  exact this
theorem full_of {n m : Nat} {l : List Int} {c : Row} (hn : n ≤ 8) (hm : m = (n + 1) * (n + 1)) (hr : RightL m l) (hz : zoneR n (drf n m l) = some c) (h0 : ¬ c 0 < 1) : ∃ p, Full n m p c := by
  unfold zoneR at hz
  rw [← hm] at hz
  cases e : closeR n (drf n m l) with
  | none =>
    rw [e] at hz
    cases hz
    exact absurd (show (0 : Int) < 1 by decide) h0
  | some p =>
    rw [e] at hz
    have hz : (if narAll n p m = true then some (cellsUpto n p m) else none) = some c := hz
    split at hz
    · rename_i hna
      cases hz
      have R := close_rounds hn (drf_fin n m l hm hr) (drf_diag n m l hm hr) e
      refine ⟨p, ?_, R.one, R.tri, fun a b ha hb => ?_, fun a b h => ?_, hna, rfl⟩
      · intro a b ha hb
        have := narAll_at hna (a * (n + 1) + b) (by rw [hm]; exact pos_lt ha hb)
        rw [flat_at n p a b hb] at this
        by_cases q : p a b = opn
        · exact .inl q
        · have := cell_fin q this
          exact .inr (by omega)
      · have le := R.le a b ha hb
        rw [drf_at n m l hm a b ha hb] at le
        have le2 : tgV (startV a b) (l.getD (a * (n + 1) + b) 0) ≤ startV a b := by unfold tgV; split <;> omega
        omega
      · rw [R.out a b h, drf_out n m l hm a b h]
    · cases hz
theorem startV_two (a b : Nat) : startV a b = opn ∨ startV a b = 1 := by unfold startV; split; exact .inl rfl; exact .inr rfl
theorem tgV_nar {s q : Int} (hs : s = opn ∨ s = 1) (le : q ≤ s) (ok : narOk q = true) : tgV s (narB q) = q := by
  have ho := opn_val
  by_cases e : q = opn
  · rw [(cell_opn e).1]
    unfold tgV
    rw [if_pos rfl]
    omega
  · have c := cell_fin e ok
    rw [c.1]
    unfold tgV
    rw [if_neg (by omega)]
    omega
theorem tgV_less {s q o : Int} (hs : s = opn ∨ s = 1) (le : q ≤ s) (ok : narOk q = true) (o0 : -536870912 ≤ o) (o1 : o ≤ 536870913) : tgV s (if o < narB q then o else narB q) = min q o := by
  have ho := opn_val
  by_cases e : q = opn
  · rw [(cell_opn e).1, if_pos (by omega)]
    unfold tgV
    rw [if_neg (by omega)]
    omega
  · have c := cell_fin e ok
    rw [c.1]
    unfold tgV
    split
    · rw [if_neg (by omega)]
      omega
    · rw [if_neg (by omega)]
      omega
/-- The cells with one more bound. -/
def lessR (c : Row) (k : Nat) (o : Int) : Row := if o < c k then updR c k o else c
theorem lessR_at (c : Row) (k : Nat) (o : Int) (a : Nat) : lessR c k o a = if a = k then (if o < c a then o else c a) else c a := by
  unfold lessR
  by_cases q : a = k
  · subst q
    rw [if_pos rfl]
    split
    · unfold updR
      rw [if_pos rfl]
    · rfl
  · rw [if_neg q]
    split
    · unfold updR
      rw [if_neg q]
    · rfl
theorem lessR_right {n m : Nat} {p : Mat} {c : Row} (h : Full n m p c) (hm : m = (n + 1) * (n + 1)) (k : Nat) (o : Int) (o0 : -536870912 ≤ o) (o1 : o ≤ 536870913) : RightL m (listOf (lessR c k o) m) := by
  intro a ha
  rw [listOf_get _ _ _ ha, lessR_at]
  have r : c a = 2147483647 ∨ (-536870912 ≤ c a ∧ c a ≤ 536870913) := by
    rw [h.cells]
    unfold cellsUpto
    rw [if_pos ha]
    have ok := narAll_at h.nar a ha
    by_cases q : flat n p a = opn
    · exact .inl (cell_opn q).1
    · have := cell_fin q ok
      rw [this.1]
      omega
  split
  · split
    · omega
    · exact r
  · exact r
theorem drf_less {n m : Nat} {p : Mat} {c : Row} (h : Full n m p c) (hm : m = (n + 1) * (n + 1)) {i j : Nat} (hi : i ≤ n) (hj : j ≤ n) {o : Int} (o0 : -536870912 ≤ o) (o1 : o ≤ 536870913) (a b : Nat) (ha : a ≤ n) (hb : b ≤ n) :
    drf n m (listOf (lessR c (j * (n + 1) + i) o) m) a b = if a = j ∧ b = i then min (p a b) o else p a b := by
  have lt : a * (n + 1) + b < m := by rw [hm]; exact pos_lt ha hb
  rw [drf_at n m _ hm a b ha hb, listOf_get _ _ _ lt, lessR_at, h.at hm a b ha hb]
  by_cases q : a = j ∧ b = i
  · obtain ⟨rfl, rfl⟩ := q
    rw [if_pos (show a * (n + 1) + b = a * (n + 1) + b from rfl), if_pos (show a = a ∧ b = b from ⟨rfl, rfl⟩)]
    exact tgV_less (startV_two a b) (h.st a b ha hb) (h.ok hm a b ha hb) o0 o1
  · rw [if_neg q, if_neg (fun e => q (pos_inj hb hi e))]
    exact tgV_nar (startV_two a b) (h.st a b ha hb) (h.ok hm a b ha hb)
/-- What is left where a bound of the zone is not kept. -/
theorem less_zone {n m : Nat} {p : Mat} {c : Row} (hn : n ≤ 8) (h : Full n m p c) (hm : m = (n + 1) * (n + 1)) {i j : Nat} (hi : i ≤ n) (hj : j ≤ n) (ne : ¬ i = j) {o : Int} (o0 : -536870912 ≤ o) (o1 : o ≤ 536870913) (hp : 1 ≤ pl (p i j) o) :
    zoneR n (drf n m (listOf (lessR c (j * (n + 1) + i) o) m)) = none ∨ ∃ q c2, zoneR n (drf n m (listOf (lessR c (j * (n + 1) + i) o) m)) = some c2 ∧ Full n m q c2 ∧ ∀ a b, a ≤ n → b ≤ n → q a b ≤ drf n m (listOf (lessR c (j * (n + 1) + i) o) m) a b := by
  have hr := lessR_right h hm (j * (n + 1) + i) o o0 o1
  have D := fun a b ha hb => drf_less h hm hi hj o0 o1 a b ha hb
  have one : One n (drf n m (listOf (lessR c (j * (n + 1) + i) o) m)) := fun a ha => by
    rw [D a a ha ha, if_neg (by omega)]
    exact h.one a ha
  obtain ⟨q, e⟩ := close_withB hn h.fin h.one h.tri hi hj (.inr (by omega)) hp (drf_fin n m _ hm hr) one D
  have R := close_rounds hn (drf_fin n m _ hm hr) (drf_diag n m _ hm hr) e
  cases z : zoneR n (drf n m (listOf (lessR c (j * (n + 1) + i) o) m)) with
  | none => exact .inl rfl
  | some c2 =>
    right
    have z' := z
    unfold zoneR at z'
    rw [e, ← hm] at z'
    have z' : (if narAll n q m = true then some (cellsUpto n q m) else none) = some c2 := z'
    split at z'
    · rename_i hna
      cases z'
      have mp : 0 < m := by rw [hm]; exact Nat.mul_pos (by omega) (by omega)
      have c0 : cellsUpto n q m 0 = 1 := by
        have := R.one 0 (by omega)
        unfold cellsUpto flat
        rw [if_pos mp, Nat.zero_div, Nat.zero_mod, this]
        decide
      obtain ⟨q', F'⟩ := full_of hn hm hr z (by rw [c0]; decide)
      refine ⟨q, _, rfl, ⟨?_, R.one, R.tri, fun a b ha hb => ?_, fun a b hh => ?_, hna, rfl⟩, R.le⟩
      · intro a b ha hb
        have := narAll_at hna (a * (n + 1) + b) (by rw [hm]; exact pos_lt ha hb)
        rw [flat_at n q a b hb] at this
        by_cases qq : q a b = opn
        · exact .inl qq
        · have := cell_fin qq this
          exact .inr (by omega)
      · have le := R.le a b ha hb
        rw [D a b ha hb] at le
        have := h.st a b ha hb
        split at le <;> omega
      · rw [R.out a b hh, drf_out n m _ hm a b hh]
    · cases z'
theorem keeps_down {n m : Nat} {l : List Int} {v : Nat → Int} {g : Int} (hm : m = (n + 1) * (n + 1)) (hr : RightL m l) (hg : 1 ≤ g) (h : keepsM n v g (drf n m l)) : kB n l v g = true := by
  rw [kB_iff]
  intro i j hi hj
  have := h i j hi hj
  rw [drf_at n m l hm i j hi hj, tgV_holds hg ((startV_fin i j).mono (by decide)) (hr _ (by rw [hm]; exact pos_lt hi hj))] at this
  exact this.2
end Go.Proofs.Ytmnckhchpbdfjaa
