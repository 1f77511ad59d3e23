/-
  What Reset, Unset, Free, Copy and Keep make of zones with points, by both ways, in numbers.
-/
import Derived.Test.YtfhfdpapppgfpaaGreatDoorZo
import Derived.Test.YtfhfdpapppgfpaaGreatDoorOt2z
import Derived.Test.YtfhfdpapppgfpaaGreatDoorZk
namespace Go.Proofs.YtfhfdpapppgfpaaGreatDoor
open Go.RowKit
set_option linter.unusedVariables false
set_option maxRecDepth 100000
def frS (l : List Int) : Nat → Mat → Mat
  | 0, p => p
  | K + 1, p => frP (l.getD K 0).toNat (frS l K p)
theorem FullC.self {n m : Nat} {p : Mat} {c : Row} (h : FullC n m p c) : FullC n m p (cellsUpto n p m) := ⟨h.cl, h.low, h.nar, rfl⟩
theorem frS_full {n m : Nat} {p : Mat} {c : Row} {l : List Int} (hm : m = (n + 1) * (n + 1)) (h : FullC n m p c) : ∀ K, hasA n l K = true → FullC n m (frS l K p) (cellsUpto n (frS l K p) m) ∧ Le n p (frS l K p)
  | 0, _ => ⟨h.self, fun _ _ _ _ => Int.le_refl _⟩
  | K + 1, ha => by
    have ha' : hasA n l K = true := by simp only [hasA, Bool.and_eq_true] at ha; exact ha.1
    have hx := hasA_at ha K (by omega)
    obtain ⟨f1, f2⟩ := frS_full hm h K ha'
    refine ⟨frP_full hm f1 (by omega), fun i j hi hj => Int.le_trans (f2 i j hi hj) (frP_le f1 (by omega) i j hi hj)⟩
theorem frS_rd {n m : Nat} {p : Mat} {c : Row} {l : List Int} (hm : m = (n + 1) * (n + 1)) (h : FullC n m p c) : ∀ K, hasA n l K = true → Rd n (freeL n l K (oR n c m)) (frS l K p)
  | 0, _ => h.rd hm
  | K + 1, ha => by
    have ha' : hasA n l K = true := by simp only [hasA, Bool.and_eq_true] at ha; exact ha.1
    have hx := hasA_at ha K (by omega)
    exact (frS_rd hm h K ha').free (by omega)
theorem freeL_empty {n : Nat} {l : List Int} : ∀ K, hasA n l K = true → (∀ i j, i ≤ n → j ≤ n → freeL n l K (fun _ _ => 0) i j = 0 ∨ freeL n l K (fun _ _ => 0) i j = 1 ∨ freeL n l K (fun _ _ => 0) i j = 2147483647) ∧ freeL n l K (fun _ _ => 0) 0 0 = 0
  | 0, _ => ⟨fun _ _ _ _ => .inl rfl, rfl⟩
  | K + 1, ha => by
    have ha' : hasA n l K = true := by simp only [hasA, Bool.and_eq_true] at ha; exact ha.1
    have hx := hasA_at ha K (by omega)
    obtain ⟨f1, f2⟩ := freeL_empty K ha'
    refine ⟨fun i j hi hj => ?_, ?_⟩
    · rw [freeL, freeK_at (by omega)]
      split
      · rw [if_pos (by omega)]; exact .inr (.inr rfl)
      · split
        · rw [if_pos (by omega)]; exact f1 i 0 hi (by omega)
        · exact f1 i j hi hj
    · rw [freeL, freeK_at (by omega), if_neg (by omega), if_neg (by omega), f2]
/-- The cells of a zone in which clocks are any. -/
theorem free_rowL {n m : Nat} {c : Row} {l : List Int} (hn : n ≤ 8) (hm : m = (n + 1) * (n + 1)) (h : ZC n m c) (ha : hasA n l l.length = true) : ∃ c1, ZC n m c1 ∧ incB m c1 c = true ∧ RightM n (freeL n l l.length (oR n c m)) ∧ zoneR n (drf n m (rowsL n (freeL n l l.length (oR n c m)) (n + 1))) = some c1 ∧ (∀ p, FullC n m p c → c1 = cellsUpto n (frS l l.length p) m ∧ FullC n m (frS l l.length p) c1 ∧ Le n p (frS l l.length p)) ∧ (c = (fun _ => 0) → c1 = fun _ => 0) := by
  rcases h with rfl | ⟨p, hp⟩
  · obtain ⟨f1, f2⟩ := freeL_empty (n := n) l.length ha
    refine ⟨fun _ => 0, .inl rfl, incB_iff.2 (.inl (by decide)), ?_, ?_, fun p hp => ?_, fun _ => rfl⟩
    · rw [oR_zero]; exact right_zero (m := m) f1
    · refine pm_hollow hm ?_
      rw [oR_zero]; exact f2
    · have := hp.zero hm
      cases this
  · obtain ⟨F, L⟩ := frS_full (l := l) hm hp l.length ha
    have R := frS_rd (l := l) hm hp l.length ha
    have hz := R.self hn hm F.cl
    rw [if_pos F.nar] at hz
    refine ⟨_, .inr ⟨_, F⟩, full_inc F hp hm L, R.right, hz, fun p' hp' => ?_, fun e => ?_⟩
    · obtain ⟨F', L'⟩ := frS_full (l := l) hm hp' l.length ha
      have R' := frS_rd (l := l) hm hp' l.length ha
      have hz' := R'.self hn hm F'.cl
      rw [if_pos F'.nar, hz] at hz'
      have e := Option.some.inj hz'
      exact ⟨e, by rw [e]; exact F', L'⟩
    · have := hp.zero hm
      rw [e] at this
      cases this
/-! ### The document's matrices, cell by cell -/
theorem rfK_at {x : Nat} {s : Mat} (x1 : 1 ≤ x) : ∀ K i j, ¬ (i = x ∧ j = x) → rfK x K s i j = if i = x then (if j < K then opn else s i j) else if j = x then (if i < K then s i 0 else s i j) else s i j
  | 0, i, j, _ => by
    show s i j = _
    split
    · rw [if_neg (by omega)]
    · split
      · rw [if_neg (by omega)]
      · rfl
  | K + 1, i, j, hx => by
    show upd (upd (rfK x K s) x K opn) K x (upd (rfK x K s) x K opn K 0) i j = _
    by_cases c1 : i = K ∧ j = x
    · obtain ⟨rfl, rfl⟩ := c1
      have ix : ¬ i = j := fun e => hx ⟨e, rfl⟩
      have e1 := rfK_at (s := s) x1 i i 0 (by omega)
      rw [if_neg ix, if_neg (by omega)] at e1
      unfold upd
      rw [if_pos ⟨rfl, rfl⟩, if_neg (by omega), e1, if_neg ix, if_pos rfl, if_pos (by omega)]
    · by_cases c2 : i = x ∧ j = K
      · obtain ⟨rfl, rfl⟩ := c2
        unfold upd
        rw [if_neg c1, if_pos ⟨rfl, rfl⟩, if_pos rfl, if_pos (by omega)]
      · have e1 := rfK_at (s := s) x1 K i j hx
        unfold upd
        rw [if_neg c1, if_neg c2, e1]
        by_cases ci : i = x
        · rw [if_pos ci, if_pos ci]
          by_cases cj : j < K
          · rw [if_pos cj, if_pos (by omega)]
          · rw [if_neg cj, if_neg (by omega)]
        · rw [if_neg ci, if_neg ci]
          by_cases cj : j = x
          · rw [if_pos cj, if_pos cj]
            by_cases ck : i < K
            · rw [if_pos ck, if_pos (by omega)]
            · rw [if_neg ck, if_neg (by omega)]
          · rw [if_neg cj, if_neg cj]
theorem rfM_at {n x i j : Nat} {s : Mat} (x1 : 1 ≤ x) (h0 : s 0 0 = 1) (hi : i ≤ n) (hj : j ≤ n) : rfM n x s i j = frP x s i j := by
  unfold rfM
  by_cases c1 : i = x ∧ j = x
  · obtain ⟨rfl, rfl⟩ := c1
    unfold upd
    rw [if_pos ⟨rfl, rfl⟩, frP_x, if_pos rfl]
  · by_cases c2 : i = 0 ∧ j = x
    · obtain ⟨rfl, rfl⟩ := c2
      unfold upd
      rw [if_neg c1, if_pos ⟨rfl, rfl⟩, frP_c s (by omega), h0]
    · have e := rfK_at (s := s) x1 (n + 1) i j c1
      unfold upd
      rw [if_neg c1, if_neg c2, e]
      unfold frP
      by_cases ci : i = x
      · rw [if_pos ci, if_pos ci, if_pos (by omega), if_neg (by omega)]
      · rw [if_neg ci, if_neg ci]
        by_cases cj : j = x
        · rw [if_pos cj, if_pos cj, if_pos (by omega)]
        · rw [if_neg cj, if_neg cj]
theorem frP_congr {n x i j : Nat} {s p : Mat} (e : ∀ i j, i ≤ n → j ≤ n → s i j = p i j) (hi : i ≤ n) (hj : j ≤ n) : frP x s i j = frP x p i j := by
  unfold frP
  rw [e i 0 hi (by omega), e i j hi hj]
/-- A matrix that is a closed one as far as it is read. -/
theorem same_cl {n m : Nat} {M q : Mat} (hn : n ≤ 8) (hm : m = (n + 1) * (n + 1)) (hq : Cl n q) (hf : ∀ i j, i ≤ n → j ≤ n → Fin' 1073741824 (q i j)) (h0 : ∀ j, j ≤ n → q 0 j ≤ 1) (e : ∀ i j, i ≤ n → j ≤ n → M i j = q i j) :
    Ok n M ∧ (∀ j, j ≤ n → M 0 j ≤ 1) ∧ zoneR n M = if narAll n q m = true then some (cellsUpto n q m) else none := by
  have O : Ok n M := ok_of (fun i j hi hj => by rw [e i j hi hj]; exact hf i j hi hj) (fun i hi => by rw [e i i hi hi, hq.one i hi]; exact Int.le_refl _)
  exact ⟨O, fun j hj => by rw [e 0 j (by omega) hj]; exact h0 j hj, zone_is hn hm O hq (fun i j hi hj => by rw [e i j hi hj]; exact Int.le_refl _) fun p _ hl i j hi hj => by rw [← e i j hi hj]; exact hl i j hi hj⟩
theorem same_full {n m : Nat} {M q : Mat} {d : Row} (hn : n ≤ 8) (hm : m = (n + 1) * (n + 1)) (h : FullC n m q d) (e : ∀ i j, i ≤ n → j ≤ n → M i j = q i j) : Ok n M ∧ (∀ j, j ≤ n → M 0 j ≤ 1) ∧ zoneR n M = some d := by
  obtain ⟨h1, h2, h3⟩ := same_cl hn hm h.cl (fun i j hi hj => F_fin (h.fin hm hi hj)) h.low e
  rw [if_pos h.nar, ← h.cells] at h3
  exact ⟨h1, h2, h3⟩
/-! ### Free -/
theorem rfL_at {n m : Nat} {p s : Mat} {c : Row} {l : List Int} (hm : m = (n + 1) * (n + 1)) (h : FullC n m p c) (e : ∀ i j, i ≤ n → j ≤ n → s i j = p i j) : ∀ K, hasA n l K = true → ∀ i j, i ≤ n → j ≤ n → rfL n l K s i j = frS l K p i j
  | 0, _, i, j, hi, hj => e i j hi hj
  | K + 1, ha, i, j, hi, hj => by
    have ha' : hasA n l K = true := by simp only [hasA, Bool.and_eq_true] at ha; exact ha.1
    have hx := hasA_at ha K (by omega)
    have ih := rfL_at hm h e K ha'
    have F := (frS_full hm h K ha').1
    show rfM n (l.getD K 0).toNat (rfL n l K s) i j = frP (l.getD K 0).toNat (frS l K p) i j
    rw [rfM_at (by omega) (by rw [ih 0 0 (by omega) (by omega)]; exact F.cl.one 0 (by omega)) hi hj]
    exact frP_congr ih hi hj
theorem free_same {n m : Nat} {p : Mat} {c : Row} {l : List Int} (hn : n ≤ 8) (hm : m = (n + 1) * (n + 1)) (h : FullC n m p c) (ha : hasA n l l.length = true) :
    Ok n (rfL n l l.length (rowMat n (listOf c m))) ∧ (∀ j, j ≤ n → rfL n l l.length (rowMat n (listOf c m)) 0 j ≤ 1) ∧ zoneR n (rfL n l l.length (rowMat n (listOf c m))) = some (cellsUpto n (frS l l.length p) m) :=
  same_full hn hm (frS_full hm h l.length ha).1 (rfL_at hm h (fun i j hi hj => h.rowMat hm hi hj) l.length ha)
/-! ### Reset -/
theorem sh_pl {v k : Int} (k0 : 0 ≤ k) (k1 : k ≤ 1048576) : pl (2 * k + 1) v = shB v k := by
  have h := pl_cases (2 * k + 1) v
  have ho := opn_val
  unfold shB
  split <;> omega
theorem sh_pl' {v k : Int} (k0 : 0 ≤ k) (k1 : k ≤ 1048576) : pl v (-(2 * k) + 1) = shB v (-k) := by
  have h := pl_cases v (-(2 * k) + 1)
  have ho := opn_val
  unfold shB
  split <;> omega
theorem rrK_at {x : Nat} {k : Int} {s : Mat} (x1 : 1 ≤ x) : ∀ K i j, ¬ (i = x ∧ j = x) → rrK x k K s i j = if i = x then (if j < K then shB (s 0 j) k else s i j) else if j = x then (if i < K then shB (s i 0) (-k) else s i j) else s i j
  | 0, i, j, _ => by
    show s i j = _
    split
    · rw [if_neg (by omega)]
    · split
      · rw [if_neg (by omega)]
      · rfl
  | K + 1, i, j, hx => by
    show upd (upd (rrK x k K s) x K (shB (rrK x k K s 0 K) k)) K x (shB (upd (rrK x k K s) x K (shB (rrK x k K s 0 K) k) K 0) (-k)) i j = _
    by_cases c1 : i = K ∧ j = x
    · obtain ⟨rfl, rfl⟩ := c1
      have ix : ¬ i = j := fun e => hx ⟨e, rfl⟩
      have e1 := rrK_at (k := k) (s := s) x1 i i 0 (by omega)
      rw [if_neg ix, if_neg (by omega)] at e1
      unfold upd
      rw [if_pos ⟨rfl, rfl⟩, if_neg (by omega), e1, if_neg ix, if_pos rfl, if_pos (by omega)]
    · by_cases c2 : i = x ∧ j = K
      · obtain ⟨rfl, rfl⟩ := c2
        have ix : ¬ j = i := fun e => hx ⟨rfl, e⟩
        have e1 := rrK_at (k := k) (s := s) x1 j 0 j (by omega)
        rw [if_neg (by omega), if_neg ix] at e1
        unfold upd
        rw [if_neg c1, if_pos ⟨rfl, rfl⟩, e1, if_pos rfl, if_pos (by omega)]
      · have e1 := rrK_at (k := k) (s := s) x1 K i j hx
        unfold upd
        rw [if_neg c1, if_neg c2, e1]
        by_cases ci : i = x
        · rw [if_pos ci, if_pos ci]
          by_cases cj : j < K
          · rw [if_pos cj, if_pos (by omega)]
          · rw [if_neg cj, if_neg (by omega)]
        · rw [if_neg ci, if_neg ci]
          by_cases cj : j = x
          · rw [if_pos cj, if_pos cj]
            by_cases ck : i < K
            · rw [if_pos ck, if_pos (by omega)]
            · rw [if_neg ck, if_neg (by omega)]
          · rw [if_neg cj, if_neg cj]
theorem rrM_at {n m x : Nat} {k : Int} {p s : Mat} {c : Row} (hm : m = (n + 1) * (n + 1)) (h : FullC n m p c) (e : ∀ i j, i ≤ n → j ≤ n → s i j = p i j) (x1 : 1 ≤ x) (xn : x ≤ n) (k0 : 0 ≤ k) (k1 : k ≤ 1048576) {i j : Nat} (hi : i ≤ n) (hj : j ≤ n) : rrM n x k s i j = rsP x (2 * k + 1) (-(2 * k) + 1) p i j := by
  have hk := nm_of k0 k1
  have z0 : (0 : Nat) ≤ n := by omega
  unfold rrM
  by_cases c1 : i = x ∧ j = x
  · obtain ⟨rfl, rfl⟩ := c1
    unfold upd
    rw [if_pos ⟨rfl, rfl⟩, rsP_xx]
  · by_cases c2 : i = 0 ∧ j = x
    · obtain ⟨rfl, rfl⟩ := c2
      unfold upd
      rw [if_neg c1, if_pos ⟨rfl, rfl⟩, rsP_c _ _ p (by omega), h.cl.one 0 z0, one_pl (S_F hk.fb)]
      omega
    · by_cases c3 : i = x ∧ j = 0
      · obtain ⟨rfl, rfl⟩ := c3
        unfold upd
        rw [if_neg c1, if_neg c2, if_pos ⟨rfl, rfl⟩, rsP_x _ _ p (by omega), h.cl.one 0 z0, pl_one (S_F hk.fa)]
      · have e1 := rrK_at (k := k) (s := s) x1 (n + 1) i j c1
        unfold upd
        rw [if_neg c1, if_neg c2, if_neg c3, e1]
        by_cases ci : i = x
        · subst ci
          have cj : ¬ j = i := fun e => c1 ⟨rfl, e⟩
          rw [if_pos rfl, if_pos (by omega), rsP_x _ _ p cj, sh_pl k0 k1, e 0 j z0 hj]
        · rw [if_neg ci]
          by_cases cj : j = x
          · subst cj
            rw [if_pos rfl, if_pos (by omega), rsP_c _ _ p ci, sh_pl' k0 k1, e i 0 hi z0]
          · rw [if_neg cj, rsP_o _ _ p ci cj, e i j hi hj]
theorem rsP_fin {n m x : Nat} {k : Int} {p : Mat} {c : Row} (hm : m = (n + 1) * (n + 1)) (h : FullC n m p c) (k0 : 0 ≤ k) (k1 : k ≤ 1048576) {i j : Nat} (hi : i ≤ n) (hj : j ≤ n) : Fin' 1073741824 (rsP x (2 * k + 1) (-(2 * k) + 1) p i j) := by
  have ho := opn_val
  unfold rsP
  split
  · split
    · exact .inr ⟨by omega, by omega⟩
    · rw [sh_pl k0 k1]
      have f := h.fin hm (i := 0) (by omega) hj
      unfold shB Fin' at *
      split <;> omega
  · split
    · rw [sh_pl' k0 k1]
      have f := h.fin hm (j := 0) hi (by omega)
      unfold shB Fin' at *
      split <;> omega
    · exact F_fin (h.fin hm hi hj)
theorem reset_same {n m x : Nat} {k : Int} {p : Mat} {c : Row} (hn : n ≤ 8) (hm : m = (n + 1) * (n + 1)) (h : FullC n m p c) (x1 : 1 ≤ x) (xn : x ≤ n) (k0 : 0 ≤ k) (k1 : k ≤ 1048576) :
    Ok n (rrM n x k (rowMat n (listOf c m))) ∧ (∀ j, j ≤ n → rrM n x k (rowMat n (listOf c m)) 0 j ≤ 1) ∧ zoneR n (rrM n x k (rowMat n (listOf c m))) = zoneR n (drf n m (rowsL n (rsM n m x k c) (n + 1))) := by
  have hk := nm_of k0 k1
  obtain ⟨h1, h2, h3⟩ := same_cl hn hm (rsP_cl h.cl (h.finM hm) hk) (fun i j hi hj => rsP_fin (x := x) hm h k0 k1 hi hj) (fun j hj => rsP_low h hm hk x1 j hj) (fun i j hi hj => rrM_at hm h (fun i j hi hj => h.rowMat hm hi hj) x1 xn k0 k1 hi hj)
  refine ⟨h1, h2, h3.trans ?_⟩
  unfold rsM
  rw [reset_is hn hm h xn x1 hk]
/-! ### Unset -/
theorem close_congr {n : Nat} {r s : Mat} (hn : n ≤ 8) (hr : Ok n r) (hs : Ok n s) (e : ∀ i j, i ≤ n → j ≤ n → r i j = s i j) : (closeR n r = none ∧ closeR n s = none) ∨ ∃ p q, closeR n r = some p ∧ closeR n s = some q ∧ Cl n p ∧ Le n p r ∧ ∀ i j, i ≤ n → j ≤ n → p i j = q i j := by
  have half : ∀ {r s : Mat}, Ok n r → Ok n s → (∀ i j, i ≤ n → j ≤ n → r i j = s i j) → ∀ p, closeR n r = some p → ∃ q, closeR n s = some q ∧ Le n p q := by
    intro r s hr hs H p e
    have R := close_rounds hn hr.fin hr.diag e
    exact close_above hn (R.cl hn) hs fun i j hi hj => by rw [← H i j hi hj]; exact R.le i j hi hj
  cases e1 : closeR n r with
  | none =>
    cases e2 : closeR n s with
    | none => exact .inl ⟨rfl, rfl⟩
    | some q =>
      obtain ⟨p, hp, -⟩ := half hs hr (fun i j hi hj => (e i j hi hj).symm) q e2
      rw [hp] at e1
      cases e1
  | some p =>
    have R := close_rounds hn hr.fin hr.diag e1
    obtain ⟨q, e2, h1⟩ := half hr hs e p e1
    obtain ⟨p', e3, h2⟩ := half hs hr (fun i j hi hj => (e i j hi hj).symm) q e2
    rw [e1] at e3
    cases e3
    exact .inr ⟨p, q, rfl, e2, R.cl hn, R.le, fun i j hi hj => Int.le_antisymm (h1 i j hi hj) (h2 i j hi hj)⟩
theorem lessM_at (r : Mat) (i j a b : Nat) (v : Int) : lessM r i j v a b = limP r i j v a b := by
  unfold lessM limP
  split
  · unfold upd
    split
    · omega
    · rfl
  · split
    · rename_i h1 h2
      obtain ⟨rfl, rfl⟩ := h2
      omega
    · rfl
theorem limP_congr {r s : Mat} {n i j : Nat} (v : Int) (e : ∀ a b, a ≤ n → b ≤ n → r a b = s a b) (hi : i ≤ n) (hj : j ≤ n) {a b : Nat} (ha : a ≤ n) (hb : b ≤ n) : limP r i j v a b = limP s i j v a b := by
  unfold limP
  rw [e i j hi hj, e a b ha hb]
theorem ruM_at {n x : Nat} {k : Int} {p s : Mat} (e : ∀ i j, i ≤ n → j ≤ n → s i j = p i j) (xn : x ≤ n) {i j : Nat} (hi : i ≤ n) (hj : j ≤ n) : ruM x k s i j = exD x (2 * k + 1) (-(2 * k) + 1) p i j := by
  unfold ruM exD
  rw [lessM_at, show -2 * k + 1 = -(2 * k) + 1 by omega]
  exact limP_congr _ (fun a b ha hb => by rw [lessM_at]; exact limP_congr _ e xn (by omega) ha hb) (by omega) xn hi hj
/-- What is at the number and may be told but for the clock may be told. -/
theorem nar_at {n x : Nat} {q : Mat} {k : Int} (hq : Cl n q) (x1 : 1 ≤ x) (xn : x ≤ n) (k0 : 0 ≤ k) (k1 : k ≤ 1048576) (l1 : q x 0 ≤ 2 * k + 1) (l2 : q 0 x ≤ -(2 * k) + 1) (low : ∀ j, j ≤ n → q 0 j ≤ 1) (h : ∀ i j, i ≤ n → j ≤ n → narOk (frP x q i j) = true) (i j : Nat) (hi : i ≤ n) (hj : j ≤ n) : narOk (q i j) = true := by
  have ho := opn_val
  have z0 : (0 : Nat) ≤ n := by omega
  have t1 := hq.t xn xn z0
  rw [hq.one x xn] at t1
  have c1 := pl_cases (q x 0) (q 0 x)
  have ea : q x 0 = 2 * k + 1 := by omega
  have eb : q 0 x = -(2 * k) + 1 := by omega
  by_cases ci : i = x
  · subst ci
    by_cases cj : j = i
    · subst cj; rw [hq.one j hj]; decide
    · have hz := h 0 j z0 hj
      rw [frP_o q (by omega) cj] at hz
      have lw := low j hj
      have t2 := hq.t hi hj z0
      have t3 := hq.t z0 hj hi
      rw [ea] at t2
      rw [eb] at t3
      have c2 := pl_cases (2 * k + 1) (q 0 j)
      have c3 := pl_cases (-(2 * k) + 1) (q i j)
      have f := hq.F hi hj
      unfold F Fin' at f
      rcases narOk_cases hz with ⟨h1, -⟩ | ⟨h1, -, h3, h4⟩
      · omega
      · exact narOk_of (by omega) (by omega)
  · by_cases cj : j = x
    · subst cj
      have hz := h i 0 hi z0
      rw [frP_o q ci (by omega)] at hz
      have t2 := hq.t hi hj z0
      have t3 := hq.t hi z0 hj
      have t4 := hq.t hi hi z0
      rw [hq.one i hi] at t4
      rw [eb] at t2
      rw [ea] at t3
      have lw := low i hi
      have c2 := pl_cases (q i 0) (-(2 * k) + 1)
      have c3 := pl_cases (q i j) (2 * k + 1)
      have c4 := pl_cases (q i 0) (q 0 i)
      have f := hq.F hi hj
      unfold F Fin' at f
      rcases narOk_cases hz with ⟨h1, -⟩ | ⟨h1, -, h3, h4⟩
      · have : q i j = opn := by omega
        rw [this]; decide
      · exact narOk_of (by omega) (by omega)
    · have hz := h i j hi hj
      rw [frP_o q ci cj] at hz
      exact hz
theorem narAll_iff {n m : Nat} {p : Mat} (hm : m = (n + 1) * (n + 1)) : narAll n p m = true ↔ ∀ i j, i ≤ n → j ≤ n → narOk (p i j) = true := by
  constructor
  · intro h i j hi hj
    have := narAll_at h (i * (n + 1) + j) (by rw [hm]; exact pos_lt hi hj)
    rwa [flat_at n p i j hj] at this
  · intro h
    refine narAll_of m fun k hk => ?_
    rw [hm] at hk
    exact h _ _ (by have := Nat.div_lt_of_lt_mul hk; omega) (by have := Nat.mod_lt k (show 0 < n + 1 by omega); omega)
/-- What a zone at a number is made of, is not too great. -/
theorem exact_fin {n m x : Nat} {k : Int} {p q : Mat} {c : Row} (hm : m = (n + 1) * (n + 1)) (h : FullC n m p c) (x1 : 1 ≤ x) (xn : x ≤ n) (k0 : 0 ≤ k) (k1 : k ≤ 1048576) (hc : Cl n q) (hl : Le n q (exD x (2 * k + 1) (-(2 * k) + 1) p)) (hg : ∀ s, Cl n s → Le n s (exD x (2 * k + 1) (-(2 * k) + 1) p) → Le n s q) (i j : Nat) (hi : i ≤ n) (hj : j ≤ n) : Fin' 1073741824 (q i j) := by
  have ho := opn_val
  have z0 : (0 : Nat) ≤ n := by omega
  have hk := nm_of k0 k1
  have lp : Le n q p := fun i j hi hj => Int.le_trans (hl i j hi hj) (exD_le x _ _ p x1 i j)
  have l1 : q x 0 ≤ 2 * k + 1 := by have := hl x 0 xn z0; rw [exD_x0 _ _ p x1] at this; omega
  have l2 : q 0 x ≤ -(2 * k) + 1 := by have := hl 0 x z0 xn; rw [exD_0x _ _ p x1] at this; omega
  have fa : Fin' 1073741824 (2 * k + 1) := .inr ⟨by omega, by omega⟩
  have fb : Fin' 1073741824 (-(2 * k) + 1) := .inr ⟨by omega, by omega⟩
  have Fa : F (2 * k + 1) := S_F hk.fa
  have Fb : F (-(2 * k) + 1) := S_F hk.fb
  have hf : FinM n 1073741824 p := fun i j hi hj => F_fin (h.fin hm hi hj)
  have g1 : 1 ≤ pl (p 0 x) (2 * k + 1) := by
    have t := hc.t z0 z0 xn
    rw [hc.one 0 z0] at t
    exact Int.le_trans t (pl_mono (hc.F z0 xn) (hc.F xn z0) (h.cl.F z0 xn) Fa (lp 0 x z0 xn) l1)
  have C1 : Cl n (withB p 0 x (2 * k + 1)) := ⟨withB_fin hf z0 xn fa, withB_one hf h.cl.one h.cl.tri z0 xn fa g1, withB_tri hf h.cl.one h.cl.tri z0 xn fa g1⟩
  have w1 : Le n q (withB p 0 x (2 * k + 1)) := fun i j hi hj => by
    have t1 := hc.t hi hj xn
    have t2 := hc.t xn hj z0
    have m2 := pl_mono (hc.F xn z0) (hc.F z0 hj) Fa (h.cl.F z0 hj) l1 (lp 0 j z0 hj)
    have m1 := pl_mono (hc.F hi xn) (hc.F xn hj) (h.cl.F hi xn) (S_plF hk.fa (h.fin hm z0 hj)) (lp i x hi xn) (Int.le_trans t2 m2)
    have ea1 : pl (pl (p i x) (2 * k + 1)) (p 0 j) = pl (p i x) (pl (2 * k + 1) (p 0 j)) := pl_assoc (h.cl.F hi xn) Fa (h.cl.F z0 hj)
    show q i j ≤ min (p i j) (pl (pl (p i x) (2 * k + 1)) (p 0 j))
    rw [ea1]
    have := lp i j hi hj
    omega
  have b0 : ∀ j, j ≤ n → -536870912 ≤ p 0 j ∧ p 0 j ≤ 1 := fun j hj => h.fin0 hm hj
  have f1 : FinM n 1073741824 (withB p 0 x (2 * k + 1)) := fun i j hi hj => by
    have fp := h.fin hm hi hj
    have fx := h.fin hm hi xn
    have f0 := b0 j hj
    have c1 := pl_cases (p i x) (2 * k + 1)
    have c2 := pl_cases (pl (p i x) (2 * k + 1)) (p 0 j)
    show Fin' _ (min (p i j) (pl (pl (p i x) (2 * k + 1)) (p 0 j)))
    have nx : p i x = opn ∨ -536870912 ≤ p i x := by
      rcases narOk_cases (h.ok hm hi xn) with ⟨h1, -⟩ | ⟨h1, -, h3, h4⟩
      · exact .inl h1
      · exact .inr h3
    unfold Fin' at *
    omega
  have g2 : 1 ≤ pl (withB p 0 x (2 * k + 1) x 0) (-(2 * k) + 1) := by
    have t := hc.t xn xn z0
    rw [hc.one x xn] at t
    exact Int.le_trans t (pl_mono (hc.F xn z0) (hc.F z0 xn) (C1.F xn z0) Fb (w1 x 0 xn z0) l2)
  have C2 : Cl n (withB (withB p 0 x (2 * k + 1)) x 0 (-(2 * k) + 1)) := ⟨withB_fin f1 xn z0 fb, withB_one f1 C1.one C1.tri xn z0 fb g2, withB_tri f1 C1.one C1.tri xn z0 fb g2⟩
  have w2 : Le n q (withB (withB p 0 x (2 * k + 1)) x 0 (-(2 * k) + 1)) := fun i j hi hj => by
    have t1 := hc.t hi hj z0
    have t2 := hc.t z0 hj xn
    have m2 := pl_mono (hc.F z0 xn) (hc.F xn hj) Fb (C1.F xn hj) l2 (w1 x j xn hj)
    have fm : F (pl (-(2 * k) + 1) (withB p 0 x (2 * k + 1) x j)) := (pl_fin fb (f1 x j xn hj)).mono (by decide)
    have m1 := pl_mono (hc.F hi z0) (hc.F z0 hj) (C1.F hi z0) fm (w1 i 0 hi z0) (Int.le_trans t2 m2)
    have ea1 : pl (pl (withB p 0 x (2 * k + 1) i 0) (-(2 * k) + 1)) (withB p 0 x (2 * k + 1) x j) = pl (withB p 0 x (2 * k + 1) i 0) (pl (-(2 * k) + 1) (withB p 0 x (2 * k + 1) x j)) := pl_assoc (C1.F hi z0) Fb (C1.F xn hj)
    show q i j ≤ min (withB p 0 x (2 * k + 1) i j) (pl (pl (withB p 0 x (2 * k + 1) i 0) (-(2 * k) + 1)) (withB p 0 x (2 * k + 1) x j))
    rw [ea1]
    have := w1 i j hi hj
    omega
  have le : Le n (withB (withB p 0 x (2 * k + 1)) x 0 (-(2 * k) + 1)) (exD x (2 * k + 1) (-(2 * k) + 1) p) := fun i j hi hj => by
    have e1 : withB (withB p 0 x (2 * k + 1)) x 0 (-(2 * k) + 1) i j ≤ withB p 0 x (2 * k + 1) i j := by unfold withB; omega
    have e2 : withB p 0 x (2 * k + 1) i j ≤ p i j := by unfold withB; omega
    by_cases c1 : i = x ∧ j = 0
    · obtain ⟨rfl, rfl⟩ := c1
      rw [exD_x0 _ _ p x1]
      have e3 : withB p 0 i (2 * k + 1) i 0 ≤ 2 * k + 1 := by
        show min (p i 0) (pl (pl (p i i) (2 * k + 1)) (p 0 0)) ≤ _
        rw [h.cl.one i hi, h.cl.one 0 z0, one_pl Fa, pl_one Fa]
        omega
      omega
    · by_cases c2 : i = 0 ∧ j = x
      · obtain ⟨rfl, rfl⟩ := c2
        rw [exD_0x _ _ p x1]
        have e3 : withB (withB p 0 j (2 * k + 1)) j 0 (-(2 * k) + 1) 0 j ≤ -(2 * k) + 1 := by
          show min (withB p 0 j (2 * k + 1) 0 j) (pl (pl (withB p 0 j (2 * k + 1) 0 0) (-(2 * k) + 1)) (withB p 0 j (2 * k + 1) j j)) ≤ _
          rw [C1.one 0 z0, C1.one j hj, one_pl Fb, pl_one Fb]
          omega
        omega
      · rw [exD_o _ _ p c1 c2]
        omega
  have eq : ∀ i j, i ≤ n → j ≤ n → q i j = withB (withB p 0 x (2 * k + 1)) x 0 (-(2 * k) + 1) i j := fun i j hi hj => Int.le_antisymm (w2 i j hi hj) (hg _ C2 le i j hi hj)
  have up1 : ∀ i j, i ≤ n → j ≤ n → withB p 0 x (2 * k + 1) i j = opn ∨ withB p 0 x (2 * k + 1) i j ≤ 540000000 := fun i j hi hj => by
    have fp := h.fin hm hi hj
    have fx := h.fin hm hi xn
    have f0 := b0 j hj
    have c1 := pl_cases (p i x) (2 * k + 1)
    have c2 := pl_cases (pl (p i x) (2 * k + 1)) (p 0 j)
    show min (p i j) (pl (pl (p i x) (2 * k + 1)) (p 0 j)) = opn ∨ min (p i j) (pl (pl (p i x) (2 * k + 1)) (p 0 j)) ≤ _
    unfold Fin' at *
    omega
  have wx : ∀ j, j ≤ n → -536870912 ≤ withB p 0 x (2 * k + 1) x j ∧ withB p 0 x (2 * k + 1) x j ≤ 2100000 := fun j hj => by
    have f0 := b0 j hj
    have nx : p x j = opn ∨ -536870912 ≤ p x j := by
      rcases narOk_cases (h.ok hm xn hj) with ⟨h1, -⟩ | ⟨h1, -, h3, h4⟩
      · exact .inl h1
      · exact .inr h3
    show -536870912 ≤ min (p x j) (pl (pl (p x x) (2 * k + 1)) (p 0 j)) ∧ min (p x j) (pl (pl (p x x) (2 * k + 1)) (p 0 j)) ≤ 2100000
    rw [h.cl.one x xn, one_pl Fa]
    have c2 := pl_cases (2 * k + 1) (p 0 j)
    omega
  have lo0 : ∀ j, j ≤ n → -540000000 ≤ q 0 j := fun j hj => by
    rw [eq 0 j z0 hj]
    have f0 := b0 j hj
    have f0x := b0 x xn
    have wj := wx j hj
    show _ ≤ min (withB p 0 x (2 * k + 1) 0 j) (pl (pl (withB p 0 x (2 * k + 1) 0 0) (-(2 * k) + 1)) (withB p 0 x (2 * k + 1) x j))
    rw [C1.one 0 z0, one_pl Fb]
    have c3 := pl_cases (-(2 * k) + 1) (withB p 0 x (2 * k + 1) x j)
    have e1 : -540000000 ≤ withB p 0 x (2 * k + 1) 0 j := by
      show _ ≤ min (p 0 j) (pl (pl (p 0 x) (2 * k + 1)) (p 0 j))
      have c1 := pl_cases (p 0 x) (2 * k + 1)
      have c2 := pl_cases (pl (p 0 x) (2 * k + 1)) (p 0 j)
      omega
    omega
  have up : q i j = opn ∨ q i j ≤ 1073741824 := by
    rw [eq i j hi hj]
    have u1 := up1 i j hi hj
    have u2 := up1 i 0 hi z0
    have wj := wx j hj
    show min (withB p 0 x (2 * k + 1) i j) (pl (pl (withB p 0 x (2 * k + 1) i 0) (-(2 * k) + 1)) (withB p 0 x (2 * k + 1) x j)) = opn ∨ min (withB p 0 x (2 * k + 1) i j) (pl (pl (withB p 0 x (2 * k + 1) i 0) (-(2 * k) + 1)) (withB p 0 x (2 * k + 1) x j)) ≤ _
    have c1 := pl_cases (withB p 0 x (2 * k + 1) i 0) (-(2 * k) + 1)
    have c2 := pl_cases (pl (withB p 0 x (2 * k + 1) i 0) (-(2 * k) + 1)) (withB p 0 x (2 * k + 1) x j)
    omega
  have t := hc.t z0 hj hi
  have lo := lo0 j hj
  have li : q 0 i ≤ 1 := Int.le_trans (lp 0 i z0 hi) (b0 i hi).2
  have c1 := pl_cases (q 0 i) (q i j)
  unfold Fin'
  omega
theorem unset_same {n m x : Nat} {k : Int} {p : Mat} {c : Row} (hn : n ≤ 8) (hm : m = (n + 1) * (n + 1)) (h : FullC n m p c) (x1 : 1 ≤ x) (xn : x ≤ n) (k0 : 0 ≤ k) (k1 : k ≤ 1048576) :
    (∀ q, rcl n (n + 1) (ruM x k (rowMat n (listOf c m))) = some q → Ok n (rfM n x q) ∧ ∀ j, j ≤ n → rfM n x q 0 j ≤ 1) ∧
    ∀ o', (zoneR n (drf n m (rowsL n (exM n m x k c) (n + 1))) = none → o' = none) → (∀ d, zoneR n (drf n m (rowsL n (exM n m x k c) (n + 1))) = some d → zoneR n (drf n m (rowsL n (freeK x (n + 1) (oR n d m)) (n + 1))) = o') → ruZ n x k (rowMat n (listOf c m)) = o' := by
  have hk := nm_of k0 k1
  have z0 : (0 : Nat) ≤ n := by omega
  have ho := opn_val
  have E : ∀ i j, i ≤ n → j ≤ n → ruM x k (rowMat n (listOf c m)) i j = exD x (2 * k + 1) (-(2 * k) + 1) p i j := fun i j hi hj => ruM_at (fun i j hi hj => h.rowMat hm hi hj) xn hi hj
  have R := (h.rd hm).exact xn x1 hk
  have Ex : Rd n (exM n m x k c) (exD x (2 * k + 1) (-(2 * k) + 1) p) := R
  have O1 := Ex.ok hm
  have O2 : Ok n (ruM x k (rowMat n (listOf c m))) := by
    have := Ex.okp
    exact ⟨fun i j hi hj => by rw [E i j hi hj]; exact this.fin i j hi hj, fun i hi => by rw [E i i hi hi]; exact this.diag i hi⟩
  have EE : ∀ i j, i ≤ n → j ≤ n → drf n m (rowsL n (exM n m x k c) (n + 1)) i j = ruM x k (rowMat n (listOf c m)) i j := fun i j hi hj => by rw [Ex.drf hm hi hj, E i j hi hj]
  have CB := close_both O2.diag
  rcases close_congr hn O1 O2 EE with ⟨n1, n2⟩ | ⟨q', q, s1, s2, hc, hl, eq⟩
  · rw [n2] at CB
    refine ⟨fun q hq => (by rw [← CB] at hq; cases hq), fun o' h1 h2 => ?_⟩
    have Z : zoneR n (drf n m (rowsL n (exM n m x k c) (n + 1))) = some (fun _ => 0) := by unfold zoneR; rw [n1]
    obtain ⟨c1, -, -, -, f1, -, f2⟩ := free_row (x := x) hn hm (.inl rfl : ZC n m (fun _ => 0)) x1 xn
    rw [f2 rfl] at f1
    have := h2 _ Z
    rw [f1] at this
    unfold ruZ
    rw [← CB]
    exact this
  · rw [s2] at CB
    have low : ∀ j, j ≤ n → q' 0 j ≤ 1 := fun j hj => Int.le_trans (hl 0 j z0 hj) (drf_low n m _ hm j hj)
    have hcf := frP_cl (x := x) hc
    have o0 : q 0 0 = 1 := by rw [← eq 0 0 z0 z0]; exact hc.one 0 z0
    have fr : ∀ i j, i ≤ n → j ≤ n → rfM n x q i j = frP x q' i j := fun i j hi hj => by rw [rfM_at x1 o0 hi hj]; exact frP_congr (fun i j hi hj => (eq i j hi hj).symm) hi hj
    have lowf : ∀ j, j ≤ n → frP x q' 0 j ≤ 1 := fun j hj => by
      by_cases cj : j = x
      · subst cj; rw [frP_c q' (by omega), hc.one 0 z0]; exact Int.le_refl _
      · rw [frP_o q' (by omega) cj]; exact low j hj
    have RR := close_rounds hn O1.fin O1.diag s1
    have l1 : q' x 0 ≤ 2 * k + 1 := by
      have := hl x 0 xn z0
      rw [Ex.drf hm xn z0, exD_x0 _ _ p x1] at this
      omega
    have l2 : q' 0 x ≤ -(2 * k) + 1 := by
      have := hl 0 x z0 xn
      rw [Ex.drf hm z0 xn, exD_0x _ _ p x1] at this
      omega
    have le2 : Le n q' p := fun i j hi hj => by
      have := hl i j hi hj
      rw [Ex.drf hm hi hj] at this
      exact Int.le_trans this (exD_le x _ _ p x1 i j)
    have hg : ∀ s, Cl n s → Le n s (exD x (2 * k + 1) (-(2 * k) + 1) p) → Le n s q' := fun s hs hsl => by
      obtain ⟨p2, e2, h2⟩ := close_above hn hs O1 fun i j hi hj => by rw [Ex.drf hm hi hj]; exact hsl i j hi hj
      rw [s1] at e2
      cases e2
      exact h2
    have hlE : Le n q' (exD x (2 * k + 1) (-(2 * k) + 1) p) := fun i j hi hj => by
      have := hl i j hi hj
      rwa [Ex.drf hm hi hj] at this
    have XF := exact_fin hm h x1 xn k0 k1 hc hlE hg
    have finf : ∀ i j, i ≤ n → j ≤ n → Fin' 1073741824 (frP x q' i j) := fun i j hi hj => by
      unfold frP
      split
      · split
        · exact .inr ⟨by omega, by omega⟩
        · exact .inl rfl
      · split
        · exact XF i 0 hi z0
        · exact XF i j hi hj
    obtain ⟨h1, h2, h3⟩ := same_cl hn hm hcf finf lowf fr
    refine ⟨fun q2 hq2 => ?_, fun o' a1 a2 => ?_⟩
    · rw [← CB] at hq2
      cases hq2
      exact ⟨h1, h2⟩
    · unfold ruZ
      rw [← CB]
      show zoneR n (rfM n x q) = o'
      rw [h3]
      have Z : zoneR n (drf n m (rowsL n (exM n m x k c) (n + 1))) = if narAll n q' m = true then some (cellsUpto n q' m) else none := by
        unfold zoneR
        rw [s1, ← hm]
      by_cases na : narAll n q' m = true
      · have F' := full_mk' hc low na
        rw [if_pos na] at Z
        have := a2 _ Z
        rw [free_is hn hm F' x1] at this
        rw [if_pos (frP_full hm F' x1).nar]
        exact this
      · rw [if_neg na] at Z
        rw [if_neg fun nf => na ((narAll_iff hm).2 (nar_at hc x1 xn k0 k1 l1 l2 low ((narAll_iff hm).1 nf)))]
        exact (a1 Z).symm
/-! ### Some clocks of a zone -/
theorem cl_some {n q : Nat} {p : Mat} (σ : Nat → Nat) (h : Cl n p) (hs : ∀ i, i ≤ q → σ i ≤ n) : Cl q (fun i j => p (σ i) (σ j)) :=
  ⟨fun i j hi hj => h.fin _ _ (hs i hi) (hs j hj), fun i hi => h.one _ (hs i hi), fun k hk i j hi hj => h.tri _ (by have := hs k (by omega); omega) _ _ (hs i hi) (hs j hj)⟩
theorem full_some {n m q mq : Nat} {p : Mat} {c : Row} (σ : Nat → Nat) (hm : m = (n + 1) * (n + 1)) (hmq : mq = (q + 1) * (q + 1)) (h : FullC n m p c) (hs : ∀ i, i ≤ q → σ i ≤ n) (s0 : σ 0 = 0) : FullC q mq (fun i j => p (σ i) (σ j)) (cellsUpto q (fun i j => p (σ i) (σ j)) mq) :=
  full_mk hmq (cl_some σ h.cl hs) (fun j hj => by show p (σ 0) (σ j) ≤ 1; rw [s0]; exact h.low _ (hs j hj)) (fun i j hi hj => h.ok hm (hs i hi) (hs j hj))
theorem rd_some {n m q : Nat} {p M : Mat} {c : Row} (σ : Nat → Nat) (hm : m = (n + 1) * (n + 1)) (h : FullC n m p c) (hs : ∀ i, i ≤ q → σ i ≤ n) (s0 : σ 0 = 0) (e : ∀ i j, i ≤ q → j ≤ q → M i j = oR n c m (σ i) (σ j)) : Rd q M (fun i j => p (σ i) (σ j)) := by
  refine ⟨fun i j hi hj => by rw [e i j hi hj]; exact h.rightM hm _ _ (hs i hi) (hs j hj), fun i j hi hj => ?_⟩
  rw [e i j hi hj, h.oR hm (hs i hi) (hs j hj)]
  refine tgV_narr (by unfold startV; split; exact .inl rfl; exact .inr rfl) ?_ (h.ok hm (hs i hi) (hs j hj))
  unfold startV
  split
  · exact F_opn (h.cl.F (hs i hi) (hs j hj))
  · rename_i z
    by_cases i0 : i = 0
    · subst i0
      rw [s0]
      exact h.low _ (hs j hj)
    · obtain rfl : i = j := by omega
      rw [h.cl.one _ (hs i hi)]
      exact Int.le_refl _
theorem some_is {n m q mq : Nat} {p M : Mat} {c : Row} (σ : Nat → Nat) (hq : q ≤ 8) (hm : m = (n + 1) * (n + 1)) (hmq : mq = (q + 1) * (q + 1)) (h : FullC n m p c) (hs : ∀ i, i ≤ q → σ i ≤ n) (s0 : σ 0 = 0) (e : ∀ i j, i ≤ q → j ≤ q → M i j = oR n c m (σ i) (σ j)) :
    RightM q M ∧ zoneR q (drf q mq (rowsL q M (q + 1))) = some (cellsUpto q (fun i j => p (σ i) (σ j)) mq) := by
  have R := rd_some σ hm h hs s0 e
  have F := full_some σ hm hmq h hs s0
  refine ⟨R.right, ?_⟩
  rw [R.self hq hmq F.cl, if_pos F.nar]
/-! ### Copy -/
def cpS (t f i : Nat) : Nat := if i = t then f else i
theorem folK_at {t f : Nat} {r : Mat} : ∀ K i j, folK t f K r i j = if j = t ∧ i < K then r i f else r i j
  | 0, i, j => by rw [if_neg (by omega)]; rfl
  | K + 1, i, j => by
    show upd (folK t f K r) K t (folK t f K r K f) i j = _
    unfold upd
    by_cases c1 : i = K ∧ j = t
    · obtain ⟨rfl, rfl⟩ := c1
      rw [if_pos ⟨rfl, rfl⟩, folK_at i i f, if_neg (by omega), if_pos ⟨rfl, by omega⟩]
    · rw [if_neg c1, folK_at K i j]
      by_cases c2 : j = t ∧ i < K
      · rw [if_pos c2, if_pos ⟨c2.1, by omega⟩]
      · rw [if_neg c2, if_neg (by omega)]
theorem copy_at {t f n : Nat} {r : Mat} {i j : Nat} (hi : i ≤ n) : folK t f (n + 1) (folR t f r) i j = r (cpS t f i) (cpS t f j) := by
  rw [folK_at]
  unfold folR cpS
  by_cases ci : i = t
  · subst ci
    by_cases cj : j = i
    · subst cj
      rw [if_pos ⟨rfl, by omega⟩]
      simp
    · rw [if_neg (fun h => cj h.1)]
      simp [cj]
  · by_cases cj : j = t
    · subst cj
      rw [if_pos ⟨rfl, by omega⟩]
      simp [ci]
    · rw [if_neg (fun h => cj h.1)]
      simp [ci, cj]
theorem cpS_t (t f : Nat) : cpS t f t = f := by unfold cpS; rw [if_pos rfl]
theorem cpS_o {t f i : Nat} (h : ¬ i = t) : cpS t f i = i := by unfold cpS; rw [if_neg h]
theorem copy_same {n m t f : Nat} {p : Mat} {c : Row} (hn : n ≤ 8) (hm : m = (n + 1) * (n + 1)) (h : FullC n m p c) (t1 : 1 ≤ t) (tn : t ≤ n) (f1 : 1 ≤ f) (fn : f ≤ n) :
    Ok n (rcpM n t f (rowMat n (listOf c m))) ∧ (∀ j, j ≤ n → rcpM n t f (rowMat n (listOf c m)) 0 j ≤ 1) ∧ zoneR n (rcpM n t f (rowMat n (listOf c m))) = some (cellsUpto n (fun i j => p (cpS t f i) (cpS t f j)) m) := by
  have hs : ∀ i, i ≤ n → cpS t f i ≤ n := fun i hi => by unfold cpS; split <;> omega
  have s0 : cpS t f 0 = 0 := by unfold cpS; rw [if_neg (by omega)]
  have F := full_some (cpS t f) hm hm h hs s0
  have e0 : ∀ i j, i ≤ n → j ≤ n → rowMat n (listOf c m) i j = p i j := fun i j hi hj => h.rowMat hm hi hj
  have z0 : (0 : Nat) ≤ n := by omega
  by_cases tf : t = f
  · refine same_full hn hm F fun i j hi hj => ?_
    have es : ∀ i, cpS t f i = i := fun i => by unfold cpS; split <;> omega
    unfold rcpM
    rw [if_pos tf, e0 i j hi hj]
    show _ = p (cpS t f i) (cpS t f j)
    rw [es, es]
  · have o0 : rowMat n (listOf c m) 0 0 = 1 := by rw [e0 0 0 z0 z0]; exact h.cl.one 0 z0
    have E : ∀ i j, i ≤ n → j ≤ n → rcpM n t f (rowMat n (listOf c m)) i j = if i = f ∧ j = t then 1 else if i = t ∧ j = f then 1 else frP t p i j := fun i j hi hj => by
      unfold rcpM
      rw [if_neg tf]
      unfold upd
      rw [rfM_at t1 o0 hi hj, frP_congr e0 hi hj]
    have FF := frP_full (x := t) hm h t1
    have O : Ok n (rcpM n t f (rowMat n (listOf c m))) := ok_of (fun i j hi hj => by
        rw [E i j hi hj]
        split
        · exact .inr ⟨by omega, by omega⟩
        · split
          · exact .inr ⟨by omega, by omega⟩
          · exact F_fin (FF.fin hm hi hj)) (fun i hi => by
        rw [E i i hi hi, if_neg (by omega), if_neg (by omega), FF.cl.one i hi]
        exact Int.le_refl _)
    refine ⟨O, fun j hj => ?_, ?_⟩
    · rw [E 0 j z0 hj, if_neg (by omega), if_neg (by omega)]
      exact FF.low j hj
    · rw [zone_is hn hm O F.cl (fun i j hi hj => ?_) (fun s hs' hl i j hi hj => ?_), if_pos F.nar]
      · show p (cpS t f i) (cpS t f j) ≤ _
        rw [E i j hi hj]
        by_cases c1 : i = f ∧ j = t
        · obtain ⟨rfl, rfl⟩ := c1
          rw [if_pos ⟨rfl, rfl⟩, cpS_o (by omega), cpS_t, h.cl.one i hi]; exact Int.le_refl _
        · rw [if_neg c1]
          by_cases c2 : i = t ∧ j = f
          · obtain ⟨rfl, rfl⟩ := c2
            rw [if_pos ⟨rfl, rfl⟩, cpS_t, cpS_o (by omega), h.cl.one j hj]; exact Int.le_refl _
          · rw [if_neg c2]
            by_cases ci : i = t
            · subst ci
              rw [frP_x, cpS_t]
              by_cases cj : j = i
              · rw [if_pos cj, cj, cpS_t, h.cl.one f fn]; exact Int.le_refl _
              · rw [if_neg cj, cpS_o cj]; exact F_opn (h.cl.F fn hj)
            · rw [cpS_o ci]
              by_cases cj : j = t
              · subst cj
                rw [cpS_t, frP_c p ci]
                refine Int.le_trans (h.cl.t hi fn z0) ?_
                have m1 := pl_mono (h.cl.F hi z0) (h.cl.F z0 fn) (h.cl.F hi z0) F1 (Int.le_refl _) (h.low f fn)
                rw [pl_one (h.cl.F hi z0)] at m1
                exact m1
              · rw [cpS_o cj, frP_o p ci cj]; exact Int.le_refl _
      · show s i j ≤ p (cpS t f i) (cpS t f j)
        have lf : s f t ≤ 1 := by have := hl f t fn tn; rw [E f t fn tn, if_pos ⟨rfl, rfl⟩] at this; exact this
        have lt : s t f ≤ 1 := by have := hl t f tn fn; rw [E t f tn fn, if_neg (by omega), if_pos ⟨rfl, rfl⟩] at this; exact this
        have lo : ∀ i j, i ≤ n → j ≤ n → ¬ i = t → ¬ j = t → s i j ≤ p i j := fun i j hi hj ci cj => by
          have := hl i j hi hj
          rw [E i j hi hj, if_neg (by omega), if_neg (by omega), frP_o p ci cj] at this
          exact this
        by_cases ci : i = t
        · subst ci
          rw [cpS_t]
          by_cases cj : j = i
          · subst cj
            rw [cpS_t, hs'.one j hj, h.cl.one f fn]; exact Int.le_refl _
          · rw [cpS_o cj]
            refine Int.le_trans (hs'.t hi hj fn) ?_
            have m1 := pl_mono (hs'.F hi fn) (hs'.F fn hj) F1 (h.cl.F fn hj) lt (lo f j fn hj (by omega) cj)
            rw [one_pl (h.cl.F fn hj)] at m1
            exact m1
        · rw [cpS_o ci]
          by_cases cj : j = t
          · subst cj
            rw [cpS_t]
            refine Int.le_trans (hs'.t hi hj fn) ?_
            have m1 := pl_mono (hs'.F hi fn) (hs'.F fn hj) (h.cl.F hi fn) F1 (lo i f hi fn ci (by omega)) lf
            rw [pl_one (h.cl.F hi fn)] at m1
            exact m1
          · rw [cpS_o cj]
            exact lo i j hi hj ci cj
/-! ### Keep -/
def rkM (l : List Int) (s : Mat) : Mat := fun i j => s (kpI l i) (kpI l j)
theorem kp_sigma {n : Nat} {l : List Int} (ha : hasA n l l.length = true) : (∀ i, i ≤ l.length → kpI l i ≤ n) ∧ kpI l 0 = 0 := ⟨fun i hi => (kp_at ha i hi).2, rfl⟩
theorem keep_same {n m : Nat} {p : Mat} {c : Row} {l : List Int} (hn : n ≤ 8) (hq : l.length ≤ 8) (hm : m = (n + 1) * (n + 1)) (h : FullC n m p c) (ha : hasA n l l.length = true) :
    Ok l.length (rkM l (rowMat n (listOf c m))) ∧ (∀ j, j ≤ l.length → rkM l (rowMat n (listOf c m)) 0 j ≤ 1) ∧ zoneR l.length (rkM l (rowMat n (listOf c m))) = some (cellsUpto l.length (fun i j => p (kpI l i) (kpI l j)) ((l.length + 1) * (l.length + 1))) := by
  obtain ⟨h1, h2⟩ := kp_sigma ha
  exact same_full hq rfl (full_some (kpI l) hm rfl h h1 h2) fun i j hi hj => h.rowMat hm (h1 i hi) (h1 j hj)
theorem kpO_at {q : Nat} {l : List Int} {r : Mat} {i j : Nat} (hi : i ≤ q) (hj : j ≤ q) : oR q (kpC q l r) ((q + 1) * (q + 1)) i j = r (kpI l i) (kpI l j) := by
  unfold oR
  rw [if_pos ⟨hj, pos_lt hi hj⟩]
  unfold kpC
  have d1 : (i * (q + 1) + j) / (q + 1) = i := by rw [Nat.mul_comm, Nat.mul_add_div (by omega), Nat.div_eq_of_lt (by omega)]; rfl
  have d2 : (i * (q + 1) + j) % (q + 1) = j := by rw [Nat.mul_comm, Nat.mul_add_mod, Nat.mod_eq_of_lt (by omega)]
  rw [d1, d2]
end Go.Proofs.YtfhfdpapppgfpaaGreatDoor
