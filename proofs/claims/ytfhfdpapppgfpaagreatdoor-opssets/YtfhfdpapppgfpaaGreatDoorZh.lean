/-
  A draft of ops made as strict as a zone (tighten).
-/
import Derived.Test.YtfhfdpapppgfpaaGreatDoorZe
import Derived.Test.YtfhfdpapppgfpaaGreatDoorZg
namespace Go.Proofs.YtfhfdpapppgfpaaGreatDoor
open Go.RowKit
set_option linter.unusedVariables false
set_option maxRecDepth 100000
/-- The first K cells of a zone as limits. -/
def tgtM (n : Nat) (c : Row) : Nat → Mat → Mat
  | 0, r => r
  | K + 1, r => limM (tgtM n c K r) (K / (n + 1)) (K % (n + 1)) (c K)
end Go.Proofs.YtfhfdpapppgfpaaGreatDoor

/-
  The contracts of ops at nil zones; joinable.
-/
namespace Go.Proofs.YtfhfdpapppgfpaaGreatDoor
open Go.RowKit
set_option linter.unusedVariables false
set_option maxRecDepth 100000
/-- A zone's pointer, and how many clocks it has; none: nil. -/
abbrev ZP := Option (Nat × Nat)
def ptrV : ZP → Value
  | none => .pointer none
  | some (b, _) => .pointer (some ⟨b, 0, none⟩)
def ZPs (w : World) (g off : Nat) (l : List ZP) : Prop := ∀ k, k < l.length → w.cell? ⟨g, off + k, none⟩ = some (ptrV (l.getD k none)) ∧ ∀ b m, l.getD k none = some (b, m) → w.cell? ⟨b, 0, none⟩ = some (.int .i64 (m : Int))
def jn (n : Nat) (l : List ZP) : Nat → Int
  | 0 => 0
  | K + 1 => match l.getD K none with
    | some (_, m) => if m = n then jn n l K else 11
    | none => jn n l K
def nn (l : List ZP) : Nat → Bool
  | 0 => true
  | K + 1 => nn l K && (l.getD K none).isSome
theorem nn_false {l : List ZP} : ∀ {k : Nat} (m : Nat), k ≤ m → nn l k = false → nn l m = false := by
  intro k m h e
  induction m with
  | zero => obtain rfl : k = 0 := by omega
            exact e
  | succ m ih =>
    by_cases q : k = m + 1
    · subst q; exact e
    · simp [nn, ih (by omega)]
def joinE (n : Nat) (l : List ZP) : Int := if nn l l.length = true then jn n l l.length else 1
theorem free_nil (v : Value) (w : World) : Calls Tryz.prog 12 #[.pointer none, v] w fun e w' => e = errOf 1 ∧ w' = w := by
  go_enter Tryz.func12, Tryz.ntmps12
  go_wp2_with fail
  exact bodyPost_ret (v := .tuple #[.pointer none, .int .i64 1]) (by simp [results, Tryz.results12, go_sem]) rfl ⟨rfl, rfl⟩
theorem copy_nil (v u : Value) (w : World) : Calls Tryz.prog 14 #[.pointer none, v, u] w fun e w' => e = errOf 1 ∧ w' = w := by
  go_enter Tryz.func14, Tryz.ntmps14
  go_wp2_with fail
  exact bodyPost_ret (v := .tuple #[.pointer none, .int .i64 1]) (by simp [results, Tryz.results14, go_sem]) rfl ⟨rfl, rfl⟩
theorem keep_nil (v : Value) (w : World) : Calls Tryz.prog 16 #[.pointer none, v] w fun e w' => e = errOf 1 ∧ w' = w := by
  go_enter Tryz.func16, Tryz.ntmps16
  go_wp2_with fail
  exact bodyPost_ret (v := .tuple #[.pointer none, .int .i64 1]) (by simp [results, Tryz.results16, go_sem]) rfl ⟨rfl, rfl⟩
theorem unset_err (v : Value) (x k e : Int) (w : World) (he : (e != 0) = true) (HS : Hid (Calls Tryz.prog 25 #[v, .int .i64 x, .int .i64 k] w fun z w' => z = .returned (.int .i64 e) ∧ Below w.heap.size w w')) :
    Calls Tryz.prog 10 #[v, .int .i64 x, .int .i64 k] w fun z w' => z = errOf e ∧ Below w.heap.size w w' := by
  go_enter Tryz.func10, Tryz.ntmps10
  go_wp2_with fail
  refine HS.out.mono ?_
  rintro z w1 ⟨rfl, hb⟩
  go_wp2_with fail
  exact bodyPost_ret (v := .tuple #[.pointer none, .int .i64 e]) (by simp [results, Tryz.results10, go_sem]) rfl ⟨rfl, hb⟩
end Go.Proofs.YtfhfdpapppgfpaaGreatDoor

/-
  And of the program: what zones have in common.
-/
namespace Go.Proofs.YtfhfdpapppgfpaaGreatDoor
open Go.RowKit
set_option linter.unusedVariables false
set_option maxRecDepth 100000
theorem tgtM_32 {n : Nat} {c : Row} {r : Mat} (h : R32 r) (hc : C32 c) : ∀ K, R32 (tgtM n c K r)
  | 0 => h
  | K + 1 => limM_32 (tgtM_32 h hc K) (hc K).1
/-- A draft with the limits of the first K zones. -/
def andK (n m : Nat) (zc : Nat → Row) : Nat → Mat → Mat
  | 0, r => r
  | K + 1, r => tgtM n (zc K) m (andK n m zc K r)
theorem andK_32 {n m : Nat} {zc : Nat → Row} {r : Mat} (h : R32 r) (hc : ∀ k, C32 (zc k)) : ∀ K, R32 (andK n m zc K r)
  | 0 => h
  | K + 1 => tgtM_32 (andK_32 h hc K) (hc K) m
end Go.Proofs.YtfhfdpapppgfpaaGreatDoor

/-
  What two zones have in common, in numbers: And and Constrain by all cells are one.
-/
namespace Go.Proofs.YtfhfdpapppgfpaaGreatDoor
open Go.RowKit
set_option linter.unusedVariables false
set_option maxRecDepth 100000
theorem le_limM {r : Mat} {a b i j : Nat} {v x : Int} : x ≤ limM r a b v i j ↔ (x ≤ r i j ∧ (a = i → b = j → x ≤ v)) := by
  unfold limM upd
  by_cases e : i = a ∧ j = b
  · obtain ⟨rfl, rfl⟩ := e
    rw [if_pos ⟨rfl, rfl⟩]
    constructor
    · intro h; exact ⟨by omega, fun _ _ => by omega⟩
    · rintro ⟨h1, h2⟩; have := h2 rfl rfl; omega
  · rw [if_neg e]
    constructor
    · intro h; exact ⟨h, fun e1 e2 => absurd ⟨e1.symm, e2.symm⟩ e⟩
    · exact fun h => h.1
theorem le_tgtM {n : Nat} {c : Row} {r : Mat} {i j : Nat} {x : Int} : ∀ K, x ≤ tgtM n c K r i j ↔ (x ≤ r i j ∧ ∀ k, k < K → k / (n + 1) = i → k % (n + 1) = j → x ≤ c k)
  | 0 => ⟨fun h => ⟨h, fun k hk => by omega⟩, fun h => h.1⟩
  | K + 1 => by
    rw [show tgtM n c (K + 1) r = limM (tgtM n c K r) (K / (n + 1)) (K % (n + 1)) (c K) from rfl, le_limM, le_tgtM K]
    constructor
    · rintro ⟨⟨h1, h2⟩, h3⟩
      refine ⟨h1, fun k hk e1 e2 => ?_⟩
      by_cases q : k = K
      · subst q; exact h3 e1 e2
      · exact h2 k (by omega) e1 e2
    · rintro ⟨h1, h2⟩
      exact ⟨⟨h1, fun k hk => h2 k (by omega)⟩, h2 K (by omega)⟩
theorem le_limK {L : Lims} {r : Mat} {i j : Nat} {x : Int} : ∀ K, x ≤ limK L K r i j ↔ (x ≤ r i j ∧ ∀ k, k < K → (L.i k).toNat = i → (L.j k).toNat = j → x ≤ L.b k)
  | 0 => ⟨fun h => ⟨h, fun k hk => by omega⟩, fun h => h.1⟩
  | K + 1 => by
    rw [show limK L (K + 1) r = limM (limK L K r) (L.i K).toNat (L.j K).toNat (L.b K) from rfl, le_limM, le_limK K]
    constructor
    · rintro ⟨⟨h1, h2⟩, h3⟩
      refine ⟨h1, fun k hk e1 e2 => ?_⟩
      by_cases q : k = K
      · subst q; exact h3 e1 e2
      · exact h2 k (by omega) e1 e2
    · rintro ⟨h1, h2⟩
      exact ⟨⟨h1, fun k hk => h2 k (by omega)⟩, h2 K (by omega)⟩
theorem eq_of_le {a b : Int} (h : ∀ x, x ≤ a ↔ x ≤ b) : a = b := Int.le_antisymm ((h a).1 (Int.le_refl _)) ((h b).2 (Int.le_refl _))
theorem place_div {n i j : Nat} (hj : j ≤ n) : (i * (n + 1) + j) / (n + 1) = i := by rw [Nat.mul_comm, Nat.mul_add_div (by omega), Nat.div_eq_of_lt (by omega)]; rfl
theorem place_mod {n i j : Nat} (hj : j ≤ n) : (i * (n + 1) + j) % (n + 1) = j := by rw [Nat.mul_comm, Nat.mul_add_mod, Nat.mod_eq_of_lt (by omega)]
theorem tgt_at {n m : Nat} {c : Row} {r : Mat} (hm : m = (n + 1) * (n + 1)) {i j : Nat} (hi : i ≤ n) (hj : j ≤ n) : tgtM n c m r i j = min (r i j) (c (i * (n + 1) + j)) := by
  refine eq_of_le fun x => ?_
  rw [le_tgtM]
  constructor
  · rintro ⟨h1, h2⟩
    have := h2 (i * (n + 1) + j) (by rw [hm]; exact pos_lt hi hj) (place_div hj) (place_mod hj)
    omega
  · intro h
    refine ⟨by omega, fun k hk e1 e2 => ?_⟩
    have : i * (n + 1) + j = k := by rw [← e1, ← e2, Nat.mul_comm]; exact Nat.div_add_mod k (n + 1)
    rw [← this]
    omega
/-- All cells of a zone as limits, the last row first. -/
def LC (n : Nat) (d : Row) : Lims := ⟨(n + 1) * (n + 1), fun k => ((n - k / (n + 1) : Nat) : Int), fun k => ((k % (n + 1) : Nat) : Int), fun k => d ((n - k / (n + 1)) * (n + 1) + k % (n + 1))⟩
theorem lc_at {n m : Nat} {d : Row} {r : Mat} (hm : m = (n + 1) * (n + 1)) {i j : Nat} (hi : i ≤ n) (hj : j ≤ n) : limK (LC n d) m r i j = min (r i j) (d (i * (n + 1) + j)) := by
  refine eq_of_le fun x => ?_
  rw [le_limK]
  simp only [LC, Int.toNat_natCast]
  constructor
  · rintro ⟨h1, h2⟩
    have e1 := place_div (i := n - i) hj
    have e2 := place_mod (i := n - i) hj
    have := h2 ((n - i) * (n + 1) + j) (by rw [hm]; exact pos_lt (by omega) hj) (by rw [e1]; omega) e2
    rw [e1, e2, show n - (n - i) = i by omega] at this
    omega
  · intro h
    refine ⟨by omega, fun k hk e1 e2 => ?_⟩
    rw [e1, e2]
    omega
theorem lc_bnd (n : Nat) (d : Row) : ∀ K, bndA n (LC n d) K = true
  | 0 => rfl
  | K + 1 => by
    rw [show bndA n (LC n d) (K + 1) = (bndA n (LC n d) K && bndB n (LC n d) K) from rfl, lc_bnd n d K, Bool.true_and]
    show decide (0 ≤ ((n - K / (n + 1) : Nat) : Int) ∧ ((n - K / (n + 1) : Nat) : Int) ≤ (n : Int) ∧ 0 ≤ ((K % (n + 1) : Nat) : Int) ∧ ((K % (n + 1) : Nat) : Int) ≤ (n : Int)) = true
    refine decide_eq_true ?_
    have := Nat.mod_lt K (show 0 < n + 1 by omega)
    generalize K % (n + 1) = a at *
    generalize K / (n + 1) = b at *
    omega
theorem lc_rgt (n : Nat) (d : Row) (h : ∀ k, rightB (d k) = true) : ∀ K, rgtA (LC n d) K = true
  | 0 => rfl
  | K + 1 => by
    rw [show rgtA (LC n d) (K + 1) = (rgtA (LC n d) K && rightB (d ((n - K / (n + 1)) * (n + 1) + K % (n + 1)))) from rfl, lc_rgt n d h K, h]
    rfl
theorem rows_of {n m : Nat} {M : Mat} {l : Row} (hm : m = (n + 1) * (n + 1)) (h : ∀ i j, i ≤ n → j ≤ n → M i j = l (i * (n + 1) + j)) : rowsL n M (n + 1) = listOf l m := by
  rw [rowsL, ← hm]
  refine listOf_congr _ _ _ fun k hk => ?_
  rw [hm] at hk
  unfold flat
  rw [h _ _ (by have := Nat.div_lt_of_lt_mul hk; omega) (by have := Nat.mod_lt k (show 0 < n + 1 by omega); omega), Nat.mul_comm, Nat.div_add_mod]
theorem oR_at {n m : Nat} {c : Row} (hm : m = (n + 1) * (n + 1)) {i j : Nat} (hi : i ≤ n) (hj : j ≤ n) : oR n c m i j = c (i * (n + 1) + j) := by
  unfold oR
  rw [if_pos ⟨hj, by rw [hm]; exact pos_lt hi hj⟩]
theorem and_one {n m : Nat} {c d : Row} (hm : m = (n + 1) * (n + 1)) : rowsL n (andK n m (fun _ => d) 1 (oR n c m)) (n + 1) = listOf (minR c d) m := rows_of hm fun i j hi hj => by
  show tgtM n d m (oR n c m) i j = _
  rw [tgt_at hm hi hj, oR_at hm hi hj]
  rfl
theorem and_two {n m : Nat} {c d : Row} (hm : m = (n + 1) * (n + 1)) : rowsL n (andK n m (fun k => if k = 0 then c else d) 2 (oR n d m)) (n + 1) = listOf (minR c d) m := rows_of hm fun i j hi hj => by
  show tgtM n d m (tgtM n c m (oR n d m)) i j = _
  rw [tgt_at hm hi hj, tgt_at hm hi hj, oR_at hm hi hj]
  unfold minR
  omega
theorem con_all {n m : Nat} {c d : Row} (hm : m = (n + 1) * (n + 1)) : rowsL n (limK (LC n d) m (oR n c m)) (n + 1) = listOf (minR c d) m := rows_of hm fun i j hi hj => by
  rw [lc_at hm hi hj, oR_at hm hi hj]
  rfl
/-- All cells may be. -/
theorem zc_right {n m : Nat} {c : Row} (hm : m = (n + 1) * (n + 1)) (h : ZC n m c) (k : Nat) : rightB (c k) = true := by
  rcases h with rfl | ⟨p, hp⟩
  · rfl
  · rw [hp.cells]
    unfold cellsUpto
    split
    · exact narB_right _
    · rfl
theorem right_min {c d : Row} {k : Nat} (h1 : rightB (c k) = true) (h2 : rightB (d k) = true) : rightB (minR c d k) = true := by
  have e : minR c d k = c k ∨ minR c d k = d k := by unfold minR; omega
  rcases e with e | e
  · rw [e]; exact h1
  · rw [e]; exact h2
/-- A zone's cells are below what it was made of. -/
theorem zone_below {n m : Nat} {l : Row} {c3 : Row} (hn : n ≤ 8) (hm : m = (n + 1) * (n + 1)) (hl : ∀ k, rightB (l k) = true) (hz : zoneR n (drf n m (listOf l m)) = some c3) : c3 = (fun _ => 0) ∨ (c3 0 = 1 ∧ ∀ k, k < m → c3 k ≤ l k) := by
  have hr : RightL m (listOf l m) := fun k hk => by
    rw [listOf_get _ _ _ hk]
    have := hl k
    simpa only [rightB, decide_eq_true_eq] using this
  have hO := drf_ok n m _ hm hr
  have hz' := hz
  unfold zoneR at hz
  rw [← hm] at hz
  cases e : closeR n (drf n m (listOf l m)) with
  | none =>
    rw [e] at hz
    cases hz
    exact .inl rfl
  | some p =>
    rw [e] at hz
    have hz : (if narAll n p m = true then some (cellsUpto n p m) else none) = some c3 := hz
    split at hz
    · rename_i na
      cases hz
      have R := close_rounds hn hO.fin hO.diag e
      have F : FullC n m p (cellsUpto n p m) := ⟨R.cl hn, fun j hj => Int.le_trans (R.le 0 j (by omega) hj) (drf_low n m _ hm j hj), na, rfl⟩
      refine .inr ⟨F.zero hm, fun k hk => ?_⟩
      have hk' := hk
      rw [hm] at hk'
      have d1 : k / (n + 1) ≤ n := by have := Nat.div_lt_of_lt_mul hk'; omega
      have d2 : k % (n + 1) ≤ n := by have := Nat.mod_lt k (show 0 < n + 1 by omega); omega
      have ek : k / (n + 1) * (n + 1) + k % (n + 1) = k := by rw [Nat.mul_comm]; exact Nat.div_add_mod k (n + 1)
      have a := F.at hm d1 d2
      rw [ek] at a
      rw [a]
      have le := R.le _ _ d1 d2
      rw [drf_at n m _ hm _ _ d1 d2, ek, listOf_get _ _ _ hk] at le
      have hlk := hl k
      simp only [rightB, decide_eq_true_eq] at hlk
      have ho := opn_val
      rcases narOk_cases (F.ok hm d1 d2) with ⟨h1, h2⟩ | ⟨h1, h2, h3, h4⟩
      · rw [h2]
        unfold tgV at le
        split at le
        · omega
        · omega
      · rw [h2]
        unfold tgV at le
        split at le
        · omega
        · omega
    · cases hz
end Go.Proofs.YtfhfdpapppgfpaaGreatDoor

/-
  The walk of the statement OpsCells.
-/
namespace Go.Proofs.YtfhfdpapppgfpaaGreatDoor
open Go.RowKit
set_option linter.unusedVariables false
set_option maxRecDepth 100000
theorem ops_of {w' : World} {B n m : Nat} {e : Ending} {M : Mat} {l : Row} (hm : m = (n + 1) * (n + 1)) (h : OpsOut w' B n e M) (hr : rowsL n M (n + 1) = listOf l m) (hl : ∀ k, rightB (l k) = true) : ZoneOut w' B n e (zoneR n (drf n m (listOf l m))) := by
  have ha : allRight (listOf l m) m = true := allRight_of _ _ fun j hj => by rw [listOf_get _ _ _ hj]; exact hl j
  unfold OpsOut at h
  rw [hr, ← hm, ha] at h
  rcases h with ⟨h, -⟩ | ⟨-, h⟩
  · cases h
  · exact h
end Go.Proofs.YtfhfdpapppgfpaaGreatDoor
