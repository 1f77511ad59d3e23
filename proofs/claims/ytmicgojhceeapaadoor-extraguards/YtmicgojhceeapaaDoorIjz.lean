/-
  Guards of one clock hold somewhere in the widened zone just if they do in the zone, in numbers.
-/
import Derived.Test.YtmicgojhceeapaaDoorIhz
namespace Go.Proofs.YtmicgojhceeapaaDoor
open Go.RowKit
set_option linter.unusedVariables false
set_option maxRecDepth 100000
theorem fQ {n : Nat} {p : Mat} (hf : FinM n 1099511627776 p) (a b : Nat) (ha : a ≤ n) (hb : b ≤ n) : Fin' 1099511627776 (p a b) := hf a b ha hb
theorem withC_one {n : Nat} {p : Mat} {i j : Nat} {o : Int} (hf : FinM n 1099511627776 p) (ho : One n p) (ht : Tri n (n + 1) p) (hi : i ≤ n) (hj : j ≤ n) (fo : Fin' 1099511627776 o) (h : 1 ≤ pl (p i j) o) : One n (withB p i j o) := by
  intro a ha
  unfold withB
  have f1 := fQ hf a j ha hj
  have f2 := fQ hf i a hi ha
  have f3 := fQ hf i j hi hj
  have F1 : F (p a j) := f1.mono (by decide)
  have F2 : F (p i a) := f2.mono (by decide)
  have F3 : F (p i j) := f3.mono (by decide)
  have Fo : F o := fo.mono (by decide)
  have t := ht a (by omega) i j hi hj
  have e : pl (pl (p a j) o) (p i a) = pl (pl (p i a) (p a j)) o := by
    rw [pl_comm (pl (p a j) o) (p i a), pl_assoc F2 F1 Fo]
  rw [e, ho a ha]
  have F4 : F (pl (p i a) (p a j)) := (pl_fin' f2 f1 (by decide) (by decide)).mono (by decide)
  have := pl_mono1 F3 F4 Fo t
  omega
theorem withC_fin {n : Nat} {p : Mat} {i j : Nat} {o : Int} (hf : FinM n 1099511627776 p) (hi : i ≤ n) (hj : j ≤ n) (fo : Fin' 1099511627776 o) : FinM n 144115188075855872 (withB p i j o) := by
  intro a b ha hb
  unfold withB
  have f0 := (fQ hf a b ha hb).mono (show (1099511627776 : Int) ≤ 144115188075855872 by decide)
  have f1 := (pl_fin' (pl_fin' (fQ hf a j ha hj) fo (by decide) (by decide)) (fQ hf i b hi hb) (by decide) (by decide)).mono (show (1099511627776 + 1099511627776 + 1 + 1099511627776 + 1 : Int) ≤ 144115188075855872 by decide)
  by_cases q : p a b ≤ pl (pl (p a j) o) (p i b)
  · rw [show min (p a b) (pl (pl (p a j) o) (p i b)) = p a b by omega]; exact f0
  · rw [show min (p a b) (pl (pl (p a j) o) (p i b)) = pl (pl (p a j) o) (p i b) by omega]; exact f1
theorem withC_tri {n : Nat} {p : Mat} {i j : Nat} {o : Int} (hf : FinM n 1099511627776 p) (ho : One n p) (ht : Tri n (n + 1) p) (hi : i ≤ n) (hj : j ≤ n) (fo : Fin' 1099511627776 o) (h : 1 ≤ pl (p i j) o) : Tri n (n + 1) (withB p i j o) := by
  intro c hc a b ha hb
  have cn : c ≤ n := by omega
  have ff : ∀ x y, x ≤ n → y ≤ n → F (p x y) := fun x y hx hy => (fQ hf x y hx hy).mono (by decide)
  have Fo : F o := fo.mono (by decide)
  have fj : ∀ x, x ≤ n → Fin' 2199023255553 (pl (p x j) o) := fun x hx => (pl_fin' (fQ hf x j hx hj) fo (by decide) (by decide)).mono (by decide)
  have Fj : ∀ x, x ≤ n → F (pl (p x j) o) := fun x hx => (fj x hx).mono (by decide)
  have fk : ∀ x y, x ≤ n → y ≤ n → Fin' 3298534883330 (pl (pl (p x j) o) (p i y)) := fun x y hx hy => (pl_fin' (fj x hx) (fQ hf i y hi hy) (by decide) (by decide)).mono (by decide)
  have Fk : ∀ x y, x ≤ n → y ≤ n → F (pl (pl (p x j) o) (p i y)) := fun x y hx hy => (fk x y hx hy).mono (by decide)
  have fp : ∀ x y z u, x ≤ n → y ≤ n → z ≤ n → u ≤ n → Fin' 2199023255553 (pl (p x y) (p z u)) := fun x y z u h1 h2 h3 h4 => (pl_fin' (fQ hf x y h1 h2) (fQ hf z u h3 h4) (by decide) (by decide)).mono (by decide)
  unfold withB
  have t1 := ht c hc a b ha hb
  have t2 := ht c hc a j ha hj
  have t3 := ht c hc i b hi hb
  have t4 := ht c hc i j hi hj
  by_cases q1 : p a c ≤ pl (pl (p a j) o) (p i c)
  · rw [show min (p a c) (pl (pl (p a j) o) (p i c)) = p a c by omega]
    by_cases q2 : p c b ≤ pl (pl (p c j) o) (p i b)
    · rw [show min (p c b) (pl (pl (p c j) o) (p i b)) = p c b by omega]
      omega
    · rw [show min (p c b) (pl (pl (p c j) o) (p i b)) = pl (pl (p c j) o) (p i b) by omega]
      have e : pl (p a c) (pl (pl (p c j) o) (p i b)) = pl (pl (pl (p a c) (p c j)) o) (p i b) := by
        rw [← pl_assoc (ff a c ha cn) (Fj c cn) (ff i b hi hb), ← pl_assoc (ff a c ha cn) (ff c j cn hj) Fo]
      rw [e]
      have m1 := pl_mono1 (ff a j ha hj) ((fp a c c j ha cn cn hj).mono (by decide)) Fo t2
      have m2 := pl_mono1 (Fj a ha) ((pl_fin' (fp a c c j ha cn cn hj) fo (by decide) (by decide)).mono (by decide)) (ff i b hi hb) m1
      omega
  · rw [show min (p a c) (pl (pl (p a j) o) (p i c)) = pl (pl (p a j) o) (p i c) by omega]
    by_cases q2 : p c b ≤ pl (pl (p c j) o) (p i b)
    · rw [show min (p c b) (pl (pl (p c j) o) (p i b)) = p c b by omega]
      rw [pl_assoc (Fj a ha) (ff i c hi cn) (ff c b cn hb)]
      have m1 := pl_mono2 (ff i b hi hb) ((fp i c c b hi cn cn hb).mono (by decide)) (Fj a ha) t3
      omega
    · rw [show min (p c b) (pl (pl (p c j) o) (p i b)) = pl (pl (p c j) o) (p i b) by omega]
      have e : pl (pl (pl (p a j) o) (p i c)) (pl (pl (p c j) o) (p i b)) = pl (pl (p a j) o) (pl (pl (pl (p i c) (p c j)) o) (p i b)) := by
        rw [pl_assoc (Fj a ha) (ff i c hi cn) (Fk c b cn hb), ← pl_assoc (ff i c hi cn) (Fj c cn) (ff i b hi hb), ← pl_assoc (ff i c hi cn) (ff c j cn hj) Fo]
      rw [e]
      have g1 : Fin' 2199023255553 (pl (p i c) (p c j)) := fp i c c j hi cn cn hj
      have m1 := pl_mono1 (ff i j hi hj) (g1.mono (by decide)) Fo t4
      have g2 : Fin' 3298534883330 (pl (pl (p i c) (p c j)) o) := (pl_fin' g1 fo (by decide) (by decide)).mono (by decide)
      have m2 : 1 ≤ pl (pl (p i c) (p c j)) o := by omega
      have m3 := pl_mono1 (a := 1) (.inr (by decide)) (g2.mono (by decide)) (ff i b hi hb) m2
      rw [one_pl (ff i b hi hb)] at m3
      have g3 : Fin' 4398046511107 (pl (pl (pl (p i c) (p c j)) o) (p i b)) := (pl_fin' g2 (fQ hf i b hi hb) (by decide) (by decide)).mono (by decide)
      have m4 := pl_mono2 (ff i b hi hb) (g3.mono (by decide)) (Fj a ha) m3
      omega
theorem withB_cl {n : Nat} {p : Mat} {i j : Nat} {o : Int} (hf : FinM n 1099511627776 p) (h : Cl n p) (hi : i ≤ n) (hj : j ≤ n) (fo : Fin' 1099511627776 o) (hc : 1 ≤ pl (p i j) o) : Cl n (withB p i j o) ∧ Le n (withB p i j o) p ∧ withB p i j o j i ≤ o :=
  ⟨⟨withC_fin hf hi hj fo, withC_one hf h.one h.tri hi hj fo hc, withC_tri hf h.one h.tri hi hj fo hc⟩, fun a b _ _ => by unfold withB; omega, by
    unfold withB
    rw [h.one i hi, h.one j hj, one_pl (fo.mono (by decide)), pl_one (fo.mono (by decide))]
    omega⟩
theorem withB_small {n : Nat} {p : Mat} {i j : Nat} {o : Int} (hf : FinM n 536870913 p) (hi : i ≤ n) (hj : j ≤ n) (fo : Fin' 536870913 o) : FinM n 1099511627776 (withB p i j o) := fun a b ha hb => by
  unfold withB
  have f0 := (hf a b ha hb).mono (show (536870913 : Int) ≤ 1099511627776 by decide)
  have f1 := (pl_fin' (pl_fin' (hf a j ha hj) fo (by decide) (by decide)) (hf i b hi hb) (by decide) (by decide)).mono (show (536870913 + 536870913 + 1 + 536870913 + 1 : Int) ≤ 1099511627776 by decide)
  by_cases q : p a b ≤ pl (pl (p a j) o) (p i b)
  · rw [show min (p a b) (pl (pl (p a j) o) (p i b)) = p a b by omega]; exact f0
  · rw [show min (p a b) (pl (pl (p a j) o) (p i b)) = pl (pl (p a j) o) (p i b) by omega]; exact f1
theorem le_tl {L : Lims} {r : Mat} {i j : Nat} {x : Int} (hx : x ≤ r i j) : ∀ K, x ≤ tlAll L K r i j ↔ ∀ k, k < K → (L.i k).toNat = i → (L.j k).toNat = j → ¬ L.b k = 2147483647 → x ≤ L.b k
  | 0 => ⟨fun _ k hk => by omega, fun _ => hx⟩
  | K + 1 => by
    have ih := le_tl (L := L) (r := r) hx K
    show x ≤ tg (tlAll L K r) (L.i K).toNat (L.j K).toNat (L.b K) i j ↔ _
    unfold tg
    by_cases e : L.b K = 2147483647
    · rw [if_pos e, ih]
      constructor
      · intro h k hk e1 e2 e3
        by_cases q : k = K
        · subst q; exact absurd e e3
        · exact h k (by omega) e1 e2 e3
      · intro h k hk; exact h k (by omega)
    · rw [if_neg e]
      unfold upd
      by_cases c : i = (L.i K).toNat ∧ j = (L.j K).toNat
      · rw [if_pos c, ← c.1, ← c.2]
        constructor
        · intro h k hk e1 e2 e3
          by_cases q : k = K
          · subst q; omega
          · exact ih.1 (by omega) k (by omega) e1 e2 e3
        · intro h
          have a := h K (by omega) c.1.symm c.2.symm e
          have b := ih.2 fun k hk => h k (by omega)
          omega
      · rw [if_neg c, ih]
        constructor
        · intro h k hk e1 e2 e3
          by_cases q : k = K
          · subst q; exact absurd ⟨e1.symm, e2.symm⟩ c
          · exact h k (by omega) e1 e2 e3
        · intro h k hk; exact h k (by omega)
theorem le_tl_all {n : Nat} {L : Lims} {s : Mat} (hs : Cl n s) (low : ∀ j, j ≤ n → s 0 j ≤ 1) : Le n s (tlAll L L.q (startR n (n + 1) 0)) ↔ ∀ k, k < L.q → (L.i k).toNat ≤ n → (L.j k).toNat ≤ n → ¬ L.b k = 2147483647 → s (L.i k).toNat (L.j k).toNat ≤ L.b k := by
  have st : ∀ i j, i ≤ n → j ≤ n → s i j ≤ startR n (n + 1) 0 i j := fun i j hi hj => by
    rw [start_at n i j hi hj]
    unfold startV
    split
    · exact F_opn (hs.F hi hj)
    · by_cases i0 : i = 0
      · subst i0; exact low j hj
      · obtain rfl : i = j := by omega
        rw [hs.one i hi]; exact Int.le_refl _
  constructor
  · intro h k hk hi hj e
    exact (le_tl (st _ _ hi hj) L.q).1 (h _ _ hi hj) k hk rfl rfl e
  · intro h i j hi hj
    refine (le_tl (st i j hi hj) L.q).2 fun k hk e1 e2 e3 => ?_
    subst e1
    subst e2
    exact h k hk hi hj e3
/-- Has a zone something in common with limits? -/
def gB (n m : Nat) (c : Row) (L : Lims) : Bool := match zoneR n (tlAll L L.q (startR n (n + 1) 0)) with
  | none => false
  | some d => (closeR n (drf n m (listOf (minR c d) m))).isSome
theorem close_some {n : Nat} {r : Mat} (hn : n ≤ 8) (O : Ok n r) : (closeR n r).isSome = true ↔ ∃ s, Cl n s ∧ Le n s r := by
  constructor
  · intro h
    cases e : closeR n r with
    | none => rw [e] at h; cases h
    | some q =>
      have R := close_rounds hn O.fin O.diag e
      exact ⟨q, R.cl hn, R.le⟩
  · rintro ⟨s, hs, hl⟩
    obtain ⟨q, e, -⟩ := close_above hn hs O hl
    rw [e]; rfl
theorem gB_iff {n m : Nat} {p : Mat} {c : Row} {L : Lims} (hn : n ≤ 8) (hm : m = (n + 1) * (n + 1)) (h : FullC n m p c) (ok : okAll n L L.q = true) : gB n m c L = true ↔ (¬ zoneR n (tlAll L L.q (startR n (n + 1) 0)) = none ∧ ∃ s, Cl n s ∧ Le n s p ∧ Le n s (tlAll L L.q (startR n (n + 1) 0))) := by
  have es := lims_same (L := L) (k := L.q) hm ok
  have rr : RightL m (listOf (rlAll n L L.q) m) := fun k hk => by
    rw [listOf_get _ _ _ hk]
    have := rl_right ok k
    simpa only [rightB, decide_eq_true_eq] using this
  have O : Ok n (tlAll L L.q (startR n (n + 1) 0)) := by rw [← es]; exact drf_ok n m _ hm rr
  have lw : ∀ j, j ≤ n → tlAll L L.q (startR n (n + 1) 0) 0 j ≤ 1 := fun j hj => by rw [← es]; exact drf_low n m _ hm j hj
  unfold gB
  cases ez : zoneR n (tlAll L L.q (startR n (n + 1) 0)) with
  | none => exact ⟨fun h => (by cases h), fun h => absurd rfl h.1⟩
  | some d =>
    show (closeR n (drf n m (listOf (minR c d) m))).isSome = true ↔ _
    have ez' := ez
    unfold zoneR at ez
    rw [← hm] at ez
    cases ec : closeR n (tlAll L L.q (startR n (n + 1) 0)) with
    | none =>
      rw [ec] at ez
      obtain rfl : d = fun _ => 0 := (Option.some.inj ez).symm
      have c0 := h.zero hm
      have hd : drf n m (listOf (minR c (fun _ => 0)) m) 0 0 < 1 := by
        have mp : 0 < m := by rw [hm]; exact Nat.mul_pos (by omega) (by omega)
        rw [drf_at n m _ hm 0 0 (by omega) (by omega), listOf_get _ _ _ (by rw [Nat.zero_mul, Nat.zero_add]; exact mp)]
        unfold minR
        rw [Nat.zero_mul, Nat.zero_add, c0]
        decide
      have e0 : closeR n (drf n m (listOf (minR c (fun _ => 0)) m)) = none := by
        unfold closeR
        rw [show diagOk n (drf n m (listOf (minR c (fun _ => 0)) m)) (n + 1) = false from diagOk_false (c := 1) (n + 1) (by omega) (by simp [diagOk]; omega)]
        rfl
      rw [e0]
      refine ⟨fun h => (by cases h), fun ⟨_, s, hs, _, hl⟩ => ?_⟩
      obtain ⟨q, e, -⟩ := close_above hn hs O hl
      rw [ec] at e; cases e
    | some Y =>
      rw [ec] at ez
      have ez : (if narAll n Y m = true then some (cellsUpto n Y m) else none) = some d := ez
      split at ez
      · rename_i na
        obtain rfl : d = cellsUpto n Y m := (Option.some.inj ez).symm
        have R := close_rounds hn O.fin O.diag ec
        have FY := full_mk' (R.cl hn) (fun j hj => Int.le_trans (R.le 0 j (by omega) hj) (lw j hj)) na
        have ev : ∀ i j, i ≤ n → j ≤ n → drf n m (listOf (minR c (cellsUpto n Y m)) m) i j = min (p i j) (Y i j) := fun i j hi hj => by
          have lt : i * (n + 1) + j < m := by rw [hm]; exact pos_lt hi hj
          rw [drf_at n m _ hm i j hi hj, listOf_get _ _ _ lt]
          unfold minR
          rw [h.at hm hi hj, FY.at hm hi hj]
          have o1 := h.ok hm hi hj
          have o2 := FY.ok hm hi hj
          have sv : startV i j = opn ∨ startV i j = 1 := by unfold startV; split; exact .inl rfl; exact .inr rfl
          by_cases l : p i j ≤ Y i j
          · rw [show min (narB (p i j)) (narB (Y i j)) = narB (p i j) by have := narB_mono o1 o2 l; omega, show min (p i j) (Y i j) = p i j by omega]
            exact tgV_narr sv (h.le hi hj) o1
          · rw [show min (narB (p i j)) (narB (Y i j)) = narB (Y i j) by have := narB_mono o2 o1 (by omega); omega, show min (p i j) (Y i j) = Y i j by omega]
            exact tgV_narr sv (FY.le hi hj) o2
        have rm : RightL m (listOf (minR c (cellsUpto n Y m)) m) := fun k hk => by
          rw [listOf_get _ _ _ hk]
          have := right_min (zc_right hm (.inr ⟨p, h⟩) k) (zc_right hm (.inr ⟨Y, FY⟩) k)
          simpa only [rightB, decide_eq_true_eq] using this
        rw [close_some hn (drf_ok n m _ hm rm)]
        constructor
        · rintro ⟨s, hs, hl⟩
          refine ⟨(by intro e; cases e), s, hs, fun i j hi hj => ?_, fun i j hi hj => ?_⟩
          · have := hl i j hi hj
            rw [ev i j hi hj] at this
            omega
          · have := hl i j hi hj
            rw [ev i j hi hj] at this
            have := R.le i j hi hj
            omega
        · rintro ⟨-, s, hs, h1, h2⟩
          obtain ⟨q, e, l2⟩ := close_above hn hs O h2
          rw [ec] at e
          cases e
          refine ⟨s, hs, fun i j hi hj => ?_⟩
          rw [ev i j hi hj]
          have := h1 i j hi hj
          have := l2 i j hi hj
          omega
      · cases ez
/-- The two bounds by which a clock is held against numbers of at most its constant. -/
structure Hd (mx lw hg : Int) : Prop where
  l0 : -(2 * mx) ≤ lw
  l1 : lw ≤ 1
  h0 : 0 ≤ hg
  h1 : hg ≤ 2 * mx + 1
  m0 : 0 ≤ mx
  m1 : mx ≤ 1048576
theorem guard_bounds {n m i : Nat} {p q : Mat} {c : Row} {l : List Int} {mx lw hg : Int} (hn : n ≤ 8) (hm : m = (n + 1) * (n + 1)) (h : FullC n m p c) (hi : i ≤ n) (i1 : 1 ≤ i) (hmx : l.getD (i - 1) 0 = mx) (hh : Hd mx lw hg) (cq : Cl n q)
    (U : Le n q (wdP l l (frS (silL l l n) (silL l l n).length p))) : (1 ≤ pl (q i 0) lw → 1 ≤ pl (p i 0) lw) ∧ (1 ≤ pl (q 0 i) hg → 1 ≤ pl (p 0 i) hg) := by
  have z0 : (0 : Nat) ≤ n := by omega
  obtain ⟨a1, a2, a3, a4, a5, a6⟩ := hh
  have nm : memB (silL l l n) (silL l l n).length i = false := by
    cases e : memB (silL l l n) (silL l l n).length i with
    | false => rfl
    | true =>
      obtain ⟨k, k1, k2, k3, -⟩ := mem_sil.1 e
      rw [show k = i - 1 by omega, hmx] at k3
      omega
  have nz : memB (silL l l n) (silL l l n).length 0 = false := by
    cases e : memB (silL l l n) (silL l l n).length 0 with
    | false => rfl
    | true => have := memB_pos sil_has e; omega
  have f1 : frS (silL l l n) (silL l l n).length p i 0 = p i 0 := by rw [frS_at p _ sil_has, nm, nz]; rfl
  have f2 : frS (silL l l n) (silL l l n).length p 0 i = p 0 i := by rw [frS_at p _ sil_has, nm, nz]; rfl
  have u1 := U i 0 hi z0
  have u2 := U 0 i z0 hi
  have ci : cstN l i = mx := by unfold cstN; rw [if_neg (by omega), hmx]; omega
  have c0 : cstN l 0 = 0 := by unfold cstN; rw [if_pos rfl]
  unfold wdP at u1 u2
  rw [if_neg (by omega), f1, ci, c0] at u1
  rw [if_neg (by omega), f2, ci, c0, if_neg (by omega)] at u2
  have t := h.cl.t z0 z0 hi
  rw [h.cl.one 0 z0] at t
  have lo := h.low i hi
  have ho := opn_val
  have fp1 := h.cl.F hi z0
  have fp2 := h.cl.F z0 hi
  have fq1 := cq.F hi z0
  have fq2 := cq.F z0 hi
  have fl : F lw := .inr ⟨by omega, by omega⟩
  have fh : F hg := .inr ⟨by omega, by omega⟩
  have k1 := pl_cases (p 0 i) (p i 0)
  constructor
  · intro hc
    by_cases big : 2 * mx + 1 < p i 0
    · have k2 := pl_cases (p i 0) lw
      omega
    · rw [if_neg (by omega)] at u1
      have pos : ¬ p i 0 < -(2 * 0) := by omega
      rw [if_neg pos] at u1
      exact Int.le_trans hc (pl_mono fq1 fl fp1 fl u1 (Int.le_refl _))
  · intro hc
    by_cases sm : p 0 i < -(2 * mx)
    · rw [if_pos sm] at u2
      have k2 := pl_cases (q 0 i) hg
      omega
    · rw [if_neg sm] at u2
      exact Int.le_trans hc (pl_mono fq2 fh fp2 fh u2 (Int.le_refl _))
end Go.Proofs.YtmicgojhceeapaaDoor
