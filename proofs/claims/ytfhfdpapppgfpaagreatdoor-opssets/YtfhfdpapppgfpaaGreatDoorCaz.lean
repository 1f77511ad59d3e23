/-
  What zones have in common, by both ways, in numbers.
-/
import Derived.Test.YtfhfdpapppgfpaaGreatDoorWzz
import Derived.Test.YtfhfdpapppgfpaaGreatDoorZk
namespace Go.Proofs.YtfhfdpapppgfpaaGreatDoor
open Go.RowKit
set_option linter.unusedVariables false
set_option maxRecDepth 100000
theorem le_lessM {r : Mat} {a b i j : Nat} {v x : Int} : x ≤ lessM r a b v i j ↔ (x ≤ r i j ∧ (a = i → b = j → x ≤ v)) := by
  unfold lessM
  by_cases l : v < r a b
  · rw [if_pos l]
    unfold upd
    by_cases e : i = a ∧ j = b
    · obtain ⟨rfl, rfl⟩ := e
      rw [if_pos ⟨rfl, rfl⟩]
      constructor
      · intro h; exact ⟨by omega, fun _ _ => h⟩
      · rintro ⟨-, h⟩; exact h rfl rfl
    · rw [if_neg e]
      constructor
      · intro h; exact ⟨h, fun e1 e2 => absurd ⟨e1.symm, e2.symm⟩ e⟩
      · exact fun h => h.1
  · rw [if_neg l]
    constructor
    · intro h
      refine ⟨h, fun e1 e2 => ?_⟩
      subst e1
      subst e2
      omega
    · exact fun h => h.1
theorem le_inK {n : Nat} {s r : Mat} {i j : Nat} {x : Int} : ∀ K, x ≤ inK n s K r i j ↔ (x ≤ r i j ∧ ∀ k, k < K → k / (n + 1) = i → k % (n + 1) = j → x ≤ s i j)
  | 0 => ⟨fun h => ⟨h, fun k hk => by omega⟩, fun h => h.1⟩
  | K + 1 => by
    show x ≤ lessM (inK n s K r) (K / (n + 1)) (K % (n + 1)) (s (K / (n + 1)) (K % (n + 1))) i j ↔ _
    rw [le_lessM, le_inK K]
    constructor
    · rintro ⟨⟨h1, h2⟩, h3⟩
      refine ⟨h1, fun k hk e1 e2 => ?_⟩
      by_cases q : k = K
      · subst q
        have := h3 e1 e2
        rw [e1, e2] at this
        exact this
      · exact h2 k (by omega) e1 e2
    · rintro ⟨h1, h2⟩
      refine ⟨⟨h1, fun k hk => h2 k (by omega)⟩, fun e1 e2 => ?_⟩
      have := h2 K (by omega) e1 e2
      rw [e1, e2]
      exact this
theorem inK_at {n m : Nat} {s r : Mat} (hm : m = (n + 1) * (n + 1)) {i j : Nat} (hi : i ≤ n) (hj : j ≤ n) : inK n s m r i j = min (r i j) (s i j) := by
  refine eq_of_le fun x => ?_
  rw [le_inK]
  constructor
  · rintro ⟨h1, h2⟩
    have := h2 (i * (n + 1) + j) (by rw [hm]; exact pos_lt hi hj) (place_div hj) (place_mod hj)
    omega
  · intro h
    exact ⟨by omega, fun k hk e1 e2 => by omega⟩
/-- The strictest of all. -/
def andP (pk : Nat → Mat) : Nat → Mat → Mat
  | 0, p => p
  | K + 1, p => fun i j => min (andP pk K p i j) (pk K i j)
theorem mmK_at {n m : Nat} {zc : Nat → Row} {pk : Nat → Mat} {p : Mat} {c : Row} (hm : m = (n + 1) * (n + 1)) (h : FullC n m p c) : ∀ K, (∀ k, k < K → FullC n m (pk k) (zc k)) → ∀ i j, i ≤ n → j ≤ n → mmK n m (fun k => rowMat n (listOf (zc k) m)) K (rowMat n (listOf c m)) i j = andP pk K p i j
  | 0, _, i, j, hi, hj => h.rowMat hm hi hj
  | K + 1, hk, i, j, hi, hj => by
    show inK n (rowMat n (listOf (zc K) m)) m (mmK n m (fun k => rowMat n (listOf (zc k) m)) K (rowMat n (listOf c m))) i j = min _ _
    rw [inK_at hm hi hj, mmK_at hm h K (fun k hk' => hk k (by omega)) i j hi hj, (hk K (by omega)).rowMat hm hi hj]
theorem Rd.tgt {n m : Nat} {M p q : Mat} {d : Row} (h : Rd n M p) (hm : m = (n + 1) * (n + 1)) (hq : FullC n m q d) : Rd n (tgtM n d m M) (fun i j => min (p i j) (q i j)) := by
  refine ⟨fun i j hi hj => ?_, fun i j hi hj => ?_⟩
  · rw [tgt_at hm hi hj, hq.at hm hi hj]
    have a := h.right i j hi hj
    rcases narOk_cases (hq.ok hm hi hj) with ⟨-, k⟩ | ⟨-, k, k3, k4⟩
    · rw [k]; omega
    · rw [k]; omega
  · rw [tgt_at hm hi hj, hq.at hm hi hj]
    have a := h.right i j hi hj
    have v := h.val i j hi hj
    have ho := opn_val
    have ok := h.okp.fin i j hi hj
    have kb : Kb 0 = 1073741824 := rfl
    rw [kb] at ok
    show _ = min (p i j) (q i j)
    rcases narOk_cases (hq.ok hm hi hj) with ⟨k0, k⟩ | ⟨k0, k, k3, k4⟩
    · rw [k, show min (M i j) 2147483647 = M i j by omega, v, k0]
      unfold Fin' at ok
      omega
    · rw [k, tg_min (by omega) (by omega) (by omega), v]
      split <;> omega
theorem and_rd {n m : Nat} {zc : Nat → Row} {pk : Nat → Mat} {p : Mat} {c : Row} (hm : m = (n + 1) * (n + 1)) (h : FullC n m p c) : ∀ K, (∀ k, k < K → FullC n m (pk k) (zc k)) → Rd n (andK n m zc K (oR n c m)) (andP pk K p)
  | 0, _ => h.rd hm
  | K + 1, hk => (and_rd hm h K fun k hk' => hk k (by omega)).tgt hm (hk K (by omega))
theorem and_right {n m : Nat} {zc : Nat → Row} {c : Row} (hm : m = (n + 1) * (n + 1)) (h : ZC n m c) : ∀ K, (∀ k, k < K → ZC n m (zc k)) → RightM n (andK n m zc K (oR n c m))
  | 0, _ => by
    rcases h with rfl | ⟨p, hp⟩
    · exact right_zero (m := m) fun i j hi hj => by rw [oR_zero]; exact .inl rfl
    · exact hp.rightM hm
  | K + 1, hk => fun i j hi hj => by
    have a := and_right hm h K (fun k hk' => hk k (by omega)) i j hi hj
    show tgtM n (zc K) m (andK n m zc K (oR n c m)) i j = 2147483647 ∨ _
    rw [show tgtM n (zc K) m (andK n m zc K (oR n c m)) i j = min (andK n m zc K (oR n c m) i j) (zc K (i * (n + 1) + j)) from tgt_at hm hi hj]
    have b := zc_right hm (hk K (by omega)) (i * (n + 1) + j)
    simp only [rightB, decide_eq_true_eq] at b
    show _ ∨ (-536870912 ≤ tgtM n (zc K) m (andK n m zc K (oR n c m)) i j ∧ tgtM n (zc K) m (andK n m zc K (oR n c m)) i j ≤ 536870913)
    rw [show tgtM n (zc K) m (andK n m zc K (oR n c m)) i j = min (andK n m zc K (oR n c m) i j) (zc K (i * (n + 1) + j)) from tgt_at hm hi hj]
    omega
theorem andK_le {n m : Nat} {zc : Nat → Row} {r : Mat} (hm : m = (n + 1) * (n + 1)) : ∀ K, andK n m zc K r 0 0 ≤ r 0 0 ∧ ∀ k, k < K → andK n m zc K r 0 0 ≤ zc k 0
  | 0 => ⟨Int.le_refl _, fun k hk => by omega⟩
  | K + 1 => by
    obtain ⟨h1, h2⟩ := andK_le (zc := zc) (r := r) hm K
    have e : andK n m zc (K + 1) r 0 0 = min (andK n m zc K r 0 0) (zc K (0 * (n + 1) + 0)) := tgt_at hm (by omega) (by omega)
    rw [Nat.zero_mul, Nat.zero_add] at e
    refine ⟨by omega, fun k hk => ?_⟩
    by_cases q : k = K
    · subst q; omega
    · have := h2 k (by omega); omega
theorem zc01 {n m : Nat} {c : Row} (hm : m = (n + 1) * (n + 1)) (h : ZC n m c) : c 0 = 0 ∨ c 0 = 1 := by
  rcases h with rfl | ⟨p, hp⟩
  · exact .inl rfl
  · exact .inr (hp.zero hm)
theorem zc_full {n m : Nat} {c : Row} (h : ZC n m c) (h1 : c 0 = 1) : ∃ p, FullC n m p c := by
  rcases h with rfl | h
  · cases h1
  · exact h
/-- And by both ways: one zone. -/
theorem and_both {n m q : Nat} {zc : Nat → Row} {c : Row} (hn : n ≤ 8) (hm : m = (n + 1) * (n + 1)) (h : ZC n m c) (hz : ∀ k, ZC n m (zc k)) :
    ((c 0 = 0 ∨ ∃ k, k < q ∧ zc k 0 = 0) → zoneR n (drf n m (rowsL n (andK n m zc q (oR n c m)) (n + 1))) = some fun _ => 0) ∧
    (c 0 = 1 → (∀ k, k < q → zc k 0 = 1) → Ok n (mmK n m (fun k => rowMat n (listOf (zc k) m)) q (rowMat n (listOf c m))) ∧ (∀ j, j ≤ n → mmK n m (fun k => rowMat n (listOf (zc k) m)) q (rowMat n (listOf c m)) 0 j ≤ 1) ∧ zoneR n (mmK n m (fun k => rowMat n (listOf (zc k) m)) q (rowMat n (listOf c m))) = zoneR n (drf n m (rowsL n (andK n m zc q (oR n c m)) (n + 1)))) := by
  have mp : 0 < m := by rw [hm]; exact Nat.mul_pos (by omega) (by omega)
  constructor
  · intro he
    refine pm_hollow' hm ?_
    obtain ⟨k1, k2⟩ := andK_le (zc := zc) (r := oR n c m) hm q
    have o0 : oR n c m 0 0 = c 0 := by have := oR_at (c := c) hm (i := 0) (j := 0) (by omega) (by omega); simpa using this
    rcases he with e | ⟨k, hk, e⟩
    · omega
    · have := k2 k hk; omega
  · intro c1 z1
    obtain ⟨p, hp⟩ := zc_full h c1
    have ch : ∃ pk : Nat → Mat, ∀ k, k < q → FullC n m (pk k) (zc k) := by
      refine ⟨fun k => if hk : k < q then (zc_full (hz k) (z1 k hk)).choose else fun _ _ => 0, fun k hk => ?_⟩
      simp only [dif_pos hk]
      exact (zc_full (hz k) (z1 k hk)).choose_spec
    obtain ⟨pk, hpk⟩ := ch
    have R := and_rd hm hp q hpk
    have ev := mmK_at hm hp q hpk
    have O := R.okp
    have O2 : Ok n (mmK n m (fun k => rowMat n (listOf (zc k) m)) q (rowMat n (listOf c m))) := ⟨fun i j hi hj => by rw [ev i j hi hj]; exact O.fin i j hi hj, fun i hi => by rw [ev i i hi hi]; exact O.diag i hi⟩
    refine ⟨O2, fun j hj => by rw [ev 0 j (by omega) hj]; exact R.low j hj, ?_⟩
    refine zone_same hn O2 (R.ok hm) fun s hs => ⟨fun hl i j hi hj => ?_, fun hl i j hi hj => ?_⟩
    · have := hl i j hi hj
      rw [ev i j hi hj] at this
      rw [R.drf hm hi hj]
      exact this
    · have := hl i j hi hj
      rw [R.drf hm hi hj] at this
      rw [ev i j hi hj]
      exact this
end Go.Proofs.YtfhfdpapppgfpaaGreatDoor
