/-
  The widened zone, in numbers: its closed form, that it is wider, that it has no bound that may not be.
-/
import Derived.Test.YtfffcmelkdmjaaaDoorZm
namespace Go.Proofs.YtfffcmelkdmjaaaDoor
open Go.RowKit
set_option linter.unusedVariables false
set_option maxRecDepth 100000
/-! ### What a closed form reaches by few finite bounds -/
def rch (n : Nat) (W : Mat) (i : Nat) : Nat → Nat → Bool
  | 0, j => decide (j = i)
  | e + 1, j => rch n W i e j || (List.range (n + 1)).any (fun a => rch n W i e a && decide (¬ W a j = opn))
theorem rch_bd {n i : Nat} {W q : Mat} {BB : Int} (hq : Cl n q) (hl : Le n q W) (hi : i ≤ n) (b0 : 0 ≤ BB) (b1 : BB ≤ 4000000) (hB : ∀ a b, a ≤ n → b ≤ n → W a b = opn ∨ W a b ≤ BB) : ∀ e j, e ≤ 100 → j ≤ n → rch n W i e j = true → q i j ≤ (e : Int) * BB + 1
  | 0, j, _, hj, h => by
    have : j = i := by simpa [rch] using h
    subst this
    rw [hq.one j hj]
    simp
  | e + 1, j, he, hj, h => by
    simp only [rch, Bool.or_eq_true, List.any_eq_true, Bool.and_eq_true, decide_eq_true_eq] at h
    have m0 : (((e + 1 : Nat) : Int)) * BB = (e : Int) * BB + BB := by rw [Int.natCast_add, Int.add_mul]; simp
    rw [m0]
    rcases h with h | ⟨a, ha, h1, h2⟩
    · have := rch_bd hq hl hi b0 b1 hB e j (by omega) hj h
      omega
    · have ha : a ≤ n := by have := List.mem_range.1 ha; omega
      have x := rch_bd hq hl hi b0 b1 hB e a (by omega) ha h1
      have y := hl a j ha hj
      have z := (hB a j ha hj).resolve_left h2
      have t := hq.t hi hj ha
      have c := pl_cases (q i a) (q a j)
      have ho := opn_val
      have mb : (e : Int) * BB ≤ 100 * 4000000 := Int.mul_le_mul (by omega) b1 b0 (by omega)
      generalize (e : Int) * BB = E at *
      omega
theorem rch_stable {n i : Nat} {W : Mat} (hi : i ≤ n) : ∃ e, e ≤ n + 1 ∧ ∀ j, j ≤ n → rch n W i (e + 1) j = true → rch n W i e j = true := by
  have key : ∀ E, (∃ e, e < E ∧ ∀ j, j ≤ n → rch n W i (e + 1) j = true → rch n W i e j = true) ∨ E + 1 ≤ (List.range (n + 1)).countP (rch n W i E) := by
    intro E
    induction E with
    | zero =>
      right
      have : 0 < (List.range (n + 1)).countP (rch n W i 0) := List.countP_pos_iff.2 ⟨i, by simp; omega, by simp [rch]⟩
      omega
    | succ E ih =>
      rcases ih with ⟨e, he, h⟩ | ih
      · exact .inl ⟨e, by omega, h⟩
      · by_cases st : ∀ j, j ≤ n → rch n W i (E + 1) j = true → rch n W i E j = true
        · exact .inl ⟨E, by omega, st⟩
        · right
          have ex : ∃ j, j ≤ n ∧ rch n W i (E + 1) j = true ∧ rch n W i E j = false := by
            apply Classical.byContradiction
            intro hc
            apply st
            intro j hj h1
            cases h2 : rch n W i E j with
            | true => rfl
            | false => exact absurd ⟨j, hj, h1, h2⟩ hc
          obtain ⟨j, hj, h1, h2⟩ := ex
          have := countP_lt (f := rch n W i E) (g := rch n W i (E + 1)) (List.range (n + 1)) (fun a _ ha => by simp only [rch, ha, Bool.true_or]) j (List.mem_range.2 (by omega)) h2 h1
          omega
  rcases key (n + 2) with ⟨e, he, h⟩ | h
  · exact ⟨e, by omega, h⟩
  · have := List.countP_le_length (p := rch n W i (n + 2)) (l := List.range (n + 1))
    simp at this
    omega
/-- The greatest closed matrix below one whose finite bounds are small has none that is not. -/
theorem reach_bd {n : Nat} {W q : Mat} {BB : Int} (hn : n ≤ 8) (hq : Cl n q) (hl : Le n q W) (hg : ∀ s, Cl n s → Le n s W → Le n s q) (b0 : 0 ≤ BB) (b1 : BB ≤ 4000000) (hB : ∀ a b, a ≤ n → b ≤ n → W a b = opn ∨ W a b ≤ BB) {i j : Nat} (hi : i ≤ n) (hj : j ≤ n) : q i j = opn ∨ q i j ≤ 40000000 := by
  obtain ⟨e, he, st⟩ := rch_stable (W := W) hi
  cases r : rch n W i e j with
  | true =>
    right
    have := rch_bd hq hl hi b0 b1 hB e j (by omega) hj r
    have mb : (e : Int) * BB ≤ 9 * 4000000 := Int.mul_le_mul (by omega) b1 b0 (by omega)
    omega
  | false =>
    left
    have ho := opn_val
    -- no finite bound leads out of what is reached
    have out : ∀ a b, a ≤ n → b ≤ n → rch n W i e a = true → rch n W i e b = false → W a b = opn := by
      intro a b ha hb h1 h2
      apply Classical.byContradiction
      intro hw
      have : rch n W i (e + 1) b = true := by
        simp only [rch, Bool.or_eq_true, List.any_eq_true, Bool.and_eq_true, decide_eq_true_eq]
        exact .inr ⟨a, by simp; omega, h1, hw⟩
      rw [st b hb this] at h2
      cases h2
    have si : rch n W i e i = true := by
      have : ∀ E, rch n W i E i = true := by
        intro E
        induction E with
        | zero => simp [rch]
        | succ E ih => simp only [rch, ih, Bool.true_or]
      exact this e
    let s : Mat := fun a b => if rch n W i e a = true ∧ rch n W i e b = false then opn else q a b
    have sge : ∀ a b, a ≤ n → b ≤ n → q a b ≤ s a b := fun a b ha hb => by
      show q a b ≤ if _ then _ else _
      split
      · exact F_opn (hq.F ha hb)
      · exact Int.le_refl _
    have sF : ∀ a b, a ≤ n → b ≤ n → Fin' 144115188075855872 (s a b) := fun a b ha hb => by
      show Fin' _ (if _ then _ else _)
      split
      · exact .inl rfl
      · exact hq.fin a b ha hb
    have cs : Cl n s := by
      refine ⟨sF, fun a ha => ?_, fun k hk a b ha hb => ?_⟩
      · show (if _ then _ else _) = (1 : Int)
        rw [if_neg (by intro h; rw [h.1] at h; exact absurd h.2 (by decide)), hq.one a ha]
      · have hk' : k ≤ n := by omega
        by_cases c : rch n W i e a = true ∧ rch n W i e b = false
        · have : s a b = opn := if_pos c
          rw [this]
          cases rk : rch n W i e k with
          | true =>
            rw [show s k b = opn from if_pos ⟨rk, c.2⟩, pl_opn]; exact Int.le_refl _
          | false =>
            rw [show s a k = opn from if_pos ⟨c.1, rk⟩, opn_pl]; exact Int.le_refl _
        · rw [show s a b = q a b from if_neg c]
          exact Int.le_trans (hq.t ha hb hk') (pl_mono (hq.F ha hk') (hq.F hk' hb) ((sF a k ha hk').mono (by decide)) ((sF k b hk' hb).mono (by decide)) (sge a k ha hk') (sge k b hk' hb))
    have le := hg s cs (fun a b ha hb => by
      show (if _ then _ else _) ≤ W a b
      split
      · rename_i c
        rw [out a b ha hb c.1 c.2]; exact Int.le_refl _
      · exact hl a b ha hb) i j hi hj
    have : s i j = opn := if_pos ⟨si, r⟩
    rw [this] at le
    exact Int.le_antisymm (F_opn (hq.F hi hj)) le
/-! ### The widened bounds -/
def wdP (lo up : List Int) (F : Mat) : Mat := fun i j => if i = j then F i j else if ¬ i = 0 ∧ 2 * cstN lo i + 1 < F i j then opn else if F i j < -(2 * cstN up j) then -(2 * cstN up j) else F i j
theorem wd_drf {n m : Nat} {lo up : List Int} {F : Mat} {c1 : Row} (hm : m = (n + 1) * (n + 1)) (h : FullC n m F c1) (h1 : cstA lo lo.length = true) (h2 : cstA up up.length = true) {i j : Nat} (hi : i ≤ n) (hj : j ≤ n) : drf n m (listOf (wdR n lo up c1) m) i j = wdP lo up F i j := by
  have lt : i * (n + 1) + j < m := by rw [hm]; exact pos_lt hi hj
  rw [drf_at n m _ hm i j hi hj, listOf_get _ _ _ lt]
  unfold wdR wdP
  rw [place_div hj, place_mod hj, h.at hm hi hj]
  have ok := h.ok hm hi hj
  have le := h.le hi hj
  have sv : startV i j = opn ∨ startV i j = 1 := by unfold startV; split; exact .inl rfl; exact .inr rfl
  have bx := cstN_bd h1 i
  have bY := cstN_bd h2 j
  have ho := opn_val
  by_cases e : i = j
  · rw [if_pos e, if_pos e]
    exact tgV_narr sv le ok
  · rw [if_neg e, if_neg e]
    unfold wdV
    have cmp : (2 * cstN lo i + 1 < narB (F i j) ↔ 2 * cstN lo i + 1 < F i j) ∧ (narB (F i j) < -(2 * cstN up j) ↔ F i j < -(2 * cstN up j)) := by
      rcases narOk_cases ok with ⟨k1, k2⟩ | ⟨k1, k2, k3, k4⟩ <;> rw [k2] <;> omega
    by_cases c1 : ¬ i = 0 ∧ 2 * cstN lo i + 1 < F i j
    · rw [if_pos c1, if_pos ⟨c1.1, cmp.1.2 c1.2⟩]
      have : startV i j = opn := by unfold startV; rw [if_pos ⟨c1.1, e⟩]; rfl
      rw [this]; rfl
    · rw [if_neg c1, if_neg (by rw [cmp.1]; exact c1)]
      by_cases c2 : F i j < -(2 * cstN up j)
      · rw [if_pos c2, if_pos (cmp.2.2 c2)]
        unfold tgV
        rw [if_neg (by omega)]
        omega
      · rw [if_neg c2, if_neg (by rw [cmp.2]; exact c2)]
        exact tgV_narr sv le ok
theorem wdP_ge {n m : Nat} {lo up : List Int} {F : Mat} {c1 : Row} (h : FullC n m F c1) : Le n F (wdP lo up F) := fun i j hi hj => by
  unfold wdP
  split
  · exact Int.le_refl _
  · split
    · exact F_opn (h.cl.F hi hj)
    · split
      · omega
      · exact Int.le_refl _
theorem wdP_small {n m : Nat} {lo up : List Int} {F : Mat} {c1 : Row} (h : FullC n m F c1) (h1 : cstA lo lo.length = true) (h2 : cstA up up.length = true) (i j : Nat) (hi : i ≤ n) (hj : j ≤ n) : wdP lo up F i j = opn ∨ wdP lo up F i j ≤ 2097153 := by
  unfold wdP
  have bx := cstN_bd h1 i
  have bY := cstN_bd h2 j
  split
  · rename_i e
    subst e
    rw [h.cl.one i hi]
    exact .inr (by omega)
  · split
    · exact .inl rfl
    · rename_i c1
      split
      · exact .inr (by omega)
      · right
        by_cases i0 : i = 0
        · subst i0
          have := h.low j hj
          omega
        · omega
theorem wdP_low {n m : Nat} {lo up : List Int} {F : Mat} {c1 : Row} (h : FullC n m F c1) (h2 : cstA up up.length = true) (j : Nat) (hj : j ≤ n) : wdP lo up F 0 j ≤ 1 := by
  unfold wdP
  have bY := cstN_bd h2 j
  have := h.low j hj
  split
  · exact this
  · rw [if_neg (by omega)]
    split
    · omega
    · exact this
/-- What LU makes of a zone that is not empty. -/
theorem lu_math {n m : Nat} {lo up : List Int} {F : Mat} {c1 : Row} (hn : n ≤ 8) (hm : m = (n + 1) * (n + 1)) (h : FullC n m F c1) (h1 : cstA lo lo.length = true) (h2 : cstA up up.length = true) :
    ∃ q, FullC n m q (cellsUpto n q m) ∧ luO n m lo up c1 = some (cellsUpto n q m) ∧ Le n F q ∧ Le n q (wdP lo up F) ∧ ∀ s, Cl n s → Le n s (wdP lo up F) → Le n s q := by
  have rr : RightL m (listOf (wdR n lo up c1) m) := fun k hk => by
    rw [listOf_get _ _ _ hk]
    have := wdR_right (n := n) h1 h2 (zc_right hm (.inr ⟨F, h⟩)) k
    simpa only [rightB, decide_eq_true_eq] using this
  have O := drf_ok n m _ hm rr
  have ev : ∀ i j, i ≤ n → j ≤ n → drf n m (listOf (wdR n lo up c1) m) i j = wdP lo up F i j := fun i j hi hj => wd_drf hm h h1 h2 hi hj
  obtain ⟨q, e1, e2⟩ := close_above hn h.cl O (fun i j hi hj => by rw [ev i j hi hj]; exact wdP_ge h i j hi hj)
  have R := close_rounds hn O.fin O.diag e1
  have qc := R.cl hn
  have ql : Le n q (wdP lo up F) := fun i j hi hj => by rw [← ev i j hi hj]; exact R.le i j hi hj
  have qg : ∀ s, Cl n s → Le n s (wdP lo up F) → Le n s q := fun s hs hl => by
    obtain ⟨q', e3, e4⟩ := close_above hn hs O (fun i j hi hj => by rw [ev i j hi hj]; exact hl i j hi hj)
    rw [e1] at e3
    cases e3
    exact e4
  have FC := full_mk hm qc (fun j hj => Int.le_trans (ql 0 j (by omega) hj) (wdP_low h h2 j hj)) fun i j hi hj => by
    have lo' := e2 i j hi hj
    have ho := opn_val
    rcases reach_bd hn qc ql qg (by omega) (by omega) (wdP_small h h1 h2) hi hj with e | e
    · rw [e]; rfl
    · rcases narOk_cases (h.ok hm hi hj) with ⟨k1, -⟩ | ⟨-, -, k3, -⟩
      · omega
      · exact narOk_of (by omega) (by omega)
  refine ⟨q, FC, ?_, e2, ql, qg⟩
  unfold luO
  rw [if_neg (by rw [h.zero hm]; omega)]
  have na := FC.nar
  rw [hm] at na e1 ⊢
  simp only [zoneR, e1, na, if_true]
end Go.Proofs.YtfffcmelkdmjaaaDoor
