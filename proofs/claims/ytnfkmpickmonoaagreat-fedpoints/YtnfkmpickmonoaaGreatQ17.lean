/-
  The document's alike, Empty, Includes, Equal, Common, Meets.
-/
import Derived.Test.YtnfkmpickmonoaaGreatQ11
import Derived.Test.YtnfkmpickmonoaaGreatQ14
import Derived.Test.YtnfkmpickmonoaaGreatQ16
namespace Go.Proofs.YtnfkmpickmonoaaGreat
open Go.RowKit
set_option linter.unusedVariables false
set_option maxRecDepth 100000
theorem RZone.past {w w' : World} {B r n : Nat} {l : List Int} (h : RZone w B r n l) (hb : Below w.heap.size w w') : RZone w' B r n l := by
  obtain ⟨g, cap, h0, h1, h2, h3, h4⟩ := h
  exact ⟨g, cap, kc _ _ hb h0, kc _ _ hb h1, h2, h3, fun j hj => kc _ _ hb (h4 j hj)⟩
theorem rempty_any {w : World} {B b n : Nat} {l : List Int} (h : RZone w B b n l) (hl : 0 < l.length) :
    Calls Tryz.prog 33 #[.pointer (some ⟨b, 0, none⟩)] w fun e w' => e = .returned (.bool (l.getD 0 0 != 1)) ∧ w' = w := by
  obtain ⟨g, cap, h0, h1, -, -, h4⟩ := h
  have a0 := h4 0 hl
  clear h4 h0
  generalize l.getD 0 0 = x at *
  generalize l.length = m at *
  have m0 : (0 : Int) < (m : Int) := by omega
  go_enter Tryz.func33, Tryz.ntmps33
  go_wp2
  go_ret
  exact ⟨rfl, rfl⟩
end Go.Proofs.YtnfkmpickmonoaaGreat

/-
  The document's Equal, Common, Meets.
-/
namespace Go.Proofs.YtnfkmpickmonoaaGreat
open Go.RowKit
set_option linter.unusedVariables false
set_option maxRecDepth 100000
/-! ### Common -/
theorem listOf_congr (c d : Row) (m : Nat) (h : ∀ j, j < m → c j = d j) : listOf c m = listOf d m := by
  unfold listOf
  exact List.map_congr_left fun a ha => h a (by simpa using ha)
end Go.Proofs.YtnfkmpickmonoaaGreat

/-
  What two zones have in common, in numbers: And and Constrain by all cells are one.
-/
namespace Go.Proofs.YtnfkmpickmonoaaGreat
open Go.RowKit
set_option linter.unusedVariables false
set_option maxRecDepth 100000
theorem le_limM {r : Mat} {a b i j : Nat} {v x : Int} : x ≤ limM r a b v i j ↔ (x ≤ r i j ∧ (a = i → b = j → x ≤ v)) := by
  unfold limM upd
  by_cases e : i = a ∧ j = b
  · obtain ⟨rfl, rfl⟩ := e
    rw [if_pos ⟨rfl, rfl⟩]
    constructor
    · intro h; exact ⟨by omega, fun _ _ => by omega⟩
    · rintro ⟨h1, h2⟩; have := h2 rfl rfl; omega
  · rw [if_neg e]
    constructor
    · intro h; exact ⟨h, fun e1 e2 => absurd ⟨e1.symm, e2.symm⟩ e⟩
    · exact fun h => h.1
theorem le_tgtM {n : Nat} {c : Row} {r : Mat} {i j : Nat} {x : Int} : ∀ K, x ≤ tgtM n c K r i j ↔ (x ≤ r i j ∧ ∀ k, k < K → k / (n + 1) = i → k % (n + 1) = j → x ≤ c k)
  | 0 => ⟨fun h => ⟨h, fun k hk => by omega⟩, fun h => h.1⟩
  | K + 1 => by
    rw [show tgtM n c (K + 1) r = limM (tgtM n c K r) (K / (n + 1)) (K % (n + 1)) (c K) from rfl, le_limM, le_tgtM K]
    constructor
    · rintro ⟨⟨h1, h2⟩, h3⟩
      refine ⟨h1, fun k hk e1 e2 => ?_⟩
      by_cases q : k = K
      · subst q; exact h3 e1 e2
      · exact h2 k (by omega) e1 e2
    · rintro ⟨h1, h2⟩
      exact ⟨⟨h1, fun k hk => h2 k (by omega)⟩, h2 K (by omega)⟩
theorem le_limK {L : Lims} {r : Mat} {i j : Nat} {x : Int} : ∀ K, x ≤ limK L K r i j ↔ (x ≤ r i j ∧ ∀ k, k < K → (L.i k).toNat = i → (L.j k).toNat = j → x ≤ L.b k)
  | 0 => ⟨fun h => ⟨h, fun k hk => by omega⟩, fun h => h.1⟩
  | K + 1 => by
    rw [show limK L (K + 1) r = limM (limK L K r) (L.i K).toNat (L.j K).toNat (L.b K) from rfl, le_limM, le_limK K]
    constructor
    · rintro ⟨⟨h1, h2⟩, h3⟩
      refine ⟨h1, fun k hk e1 e2 => ?_⟩
      by_cases q : k = K
      · subst q; exact h3 e1 e2
      · exact h2 k (by omega) e1 e2
    · rintro ⟨h1, h2⟩
      exact ⟨⟨h1, fun k hk => h2 k (by omega)⟩, h2 K (by omega)⟩
theorem eq_of_le {a b : Int} (h : ∀ x, x ≤ a ↔ x ≤ b) : a = b := Int.le_antisymm ((h a).1 (Int.le_refl _)) ((h b).2 (Int.le_refl _))
theorem place_div {n i j : Nat} (hj : j ≤ n) : (i * (n + 1) + j) / (n + 1) = i := by rw [Nat.mul_comm, Nat.mul_add_div (by omega), Nat.div_eq_of_lt (by omega)]; rfl
theorem place_mod {n i j : Nat} (hj : j ≤ n) : (i * (n + 1) + j) % (n + 1) = j := by rw [Nat.mul_comm, Nat.mul_add_mod, Nat.mod_eq_of_lt (by omega)]
theorem tgt_at {n m : Nat} {c : Row} {r : Mat} (hm : m = (n + 1) * (n + 1)) {i j : Nat} (hi : i ≤ n) (hj : j ≤ n) : tgtM n c m r i j = min (r i j) (c (i * (n + 1) + j)) := by
  refine eq_of_le fun x => ?_
  rw [le_tgtM]
  constructor
  · rintro ⟨h1, h2⟩
    have := h2 (i * (n + 1) + j) (by rw [hm]; exact pos_lt hi hj) (place_div hj) (place_mod hj)
    omega
  · intro h
    refine ⟨by omega, fun k hk e1 e2 => ?_⟩
    have : i * (n + 1) + j = k := by rw [← e1, ← e2, Nat.mul_comm]; exact Nat.div_add_mod k (n + 1)
    rw [← this]
    omega
theorem rows_of {n m : Nat} {M : Mat} {l : Row} (hm : m = (n + 1) * (n + 1)) (h : ∀ i j, i ≤ n → j ≤ n → M i j = l (i * (n + 1) + j)) : rowsL n M (n + 1) = listOf l m := by
  rw [rowsL, ← hm]
  refine listOf_congr _ _ _ fun k hk => ?_
  rw [hm] at hk
  unfold flat
  rw [h _ _ (by have := Nat.div_lt_of_lt_mul hk; omega) (by have := Nat.mod_lt k (show 0 < n + 1 by omega); omega), Nat.mul_comm, Nat.div_add_mod]
theorem oR_at {n m : Nat} {c : Row} (hm : m = (n + 1) * (n + 1)) {i j : Nat} (hi : i ≤ n) (hj : j ≤ n) : oR n c m i j = c (i * (n + 1) + j) := by
  unfold oR
  rw [if_pos ⟨hj, by rw [hm]; exact pos_lt hi hj⟩]
theorem and_one {n m : Nat} {c d : Row} (hm : m = (n + 1) * (n + 1)) : rowsL n (andK n m (fun _ => d) 1 (oR n c m)) (n + 1) = listOf (minR c d) m := rows_of hm fun i j hi hj => by
  show tgtM n d m (oR n c m) i j = _
  rw [tgt_at hm hi hj, oR_at hm hi hj]
  rfl
/-- All cells may be. -/
theorem zc_right {n m : Nat} {c : Row} (hm : m = (n + 1) * (n + 1)) (h : ZC n m c) (k : Nat) : rightB (c k) = true := by
  rcases h with rfl | ⟨p, hp⟩
  · rfl
  · rw [hp.cells]
    unfold cellsUpto
    split
    · exact narB_right _
    · rfl
theorem right_min {c d : Row} {k : Nat} (h1 : rightB (c k) = true) (h2 : rightB (d k) = true) : rightB (minR c d k) = true := by
  have e : minR c d k = c k ∨ minR c d k = d k := by unfold minR; omega
  rcases e with e | e
  · rw [e]; exact h1
  · rw [e]; exact h2
/-- A zone's cells are below what it was made of. -/
theorem zone_below {n m : Nat} {l : Row} {c3 : Row} (hn : n ≤ 8) (hm : m = (n + 1) * (n + 1)) (hl : ∀ k, rightB (l k) = true) (hz : zoneR n (drf n m (listOf l m)) = some c3) : c3 = (fun _ => 0) ∨ (c3 0 = 1 ∧ ∀ k, k < m → c3 k ≤ l k) := by
  have hr : RightL m (listOf l m) := fun k hk => by
    rw [listOf_get _ _ _ hk]
    have := hl k
    simpa only [rightB, decide_eq_true_eq] using this
  have hO := drf_ok n m _ hm hr
  have hz' := hz
  unfold zoneR at hz
  rw [← hm] at hz
  cases e : closeR n (drf n m (listOf l m)) with
  | none =>
    rw [e] at hz
    cases hz
    exact .inl rfl
  | some p =>
    rw [e] at hz
    have hz : (if narAll n p m = true then some (cellsUpto n p m) else none) = some c3 := hz
    split at hz
    · rename_i na
      cases hz
      have R := close_rounds hn hO.fin hO.diag e
      have F : FullC n m p (cellsUpto n p m) := ⟨R.cl hn, fun j hj => Int.le_trans (R.le 0 j (by omega) hj) (drf_low n m _ hm j hj), na, rfl⟩
      refine .inr ⟨F.zero hm, fun k hk => ?_⟩
      have hk' := hk
      rw [hm] at hk'
      have d1 : k / (n + 1) ≤ n := by have := Nat.div_lt_of_lt_mul hk'; omega
      have d2 : k % (n + 1) ≤ n := by have := Nat.mod_lt k (show 0 < n + 1 by omega); omega
      have ek : k / (n + 1) * (n + 1) + k % (n + 1) = k := by rw [Nat.mul_comm]; exact Nat.div_add_mod k (n + 1)
      have a := F.at hm d1 d2
      rw [ek] at a
      rw [a]
      have le := R.le _ _ d1 d2
      rw [drf_at n m _ hm _ _ d1 d2, ek, listOf_get _ _ _ hk] at le
      have hlk := hl k
      simp only [rightB, decide_eq_true_eq] at hlk
      have ho := opn_val
      rcases narOk_cases (F.ok hm d1 d2) with ⟨h1, h2⟩ | ⟨h1, h2, h3, h4⟩
      · rw [h2]
        unfold tgV at le
        split at le
        · omega
        · omega
      · rw [h2]
        unfold tgV at le
        split at le
        · omega
        · omega
    · cases hz
end Go.Proofs.YtnfkmpickmonoaaGreat

/-
  The walk of the statement OpsCells.
-/
namespace Go.Proofs.YtnfkmpickmonoaaGreat
open Go.RowKit
set_option linter.unusedVariables false
set_option maxRecDepth 100000
theorem ops_of {w' : World} {B n m : Nat} {e : Ending} {M : Mat} {l : Row} (hm : m = (n + 1) * (n + 1)) (h : OpsOut w' B n e M) (hr : rowsL n M (n + 1) = listOf l m) (hl : ∀ k, rightB (l k) = true) : ZoneOut w' B n e (zoneR n (drf n m (listOf l m))) := by
  have ha : allRight (listOf l m) m = true := allRight_of _ _ fun j hj => by rw [listOf_get _ _ _ hj]; exact hl j
  unfold OpsOut at h
  rw [hr, ← hm, ha] at h
  rcases h with ⟨h, -⟩ | ⟨-, h⟩
  · cases h
  · exact h
end Go.Proofs.YtnfkmpickmonoaaGreat

/-
  fed: a zone with one limit more.
-/
namespace Go.Proofs.YtnfkmpickmonoaaGreat
open Go.RowKit
set_option linter.unusedVariables false
set_option maxRecDepth 100000
/-- The cells with one of them stricter. -/
def lowR (c : Row) (k : Nat) (v : Int) : Row := fun j => if j = k then min (c j) v else c j
def one1 (i j v : Int) : Lims := ⟨1, fun _ => i, fun _ => j, fun _ => v⟩
/-- The zone of a zone with one limit more. -/
def conZ (n m : Nat) (c : Row) (k : Nat) (v : Int) : Option Row := zoneR n (drf n m (listOf (lowR c k v) m))
theorem low_right {c : Row} {k : Nat} {v : Int} (h : ∀ j, rightB (c j) = true) (hv : rightB v = true) : ∀ j, rightB (lowR c k v j) = true := fun j => by
  unfold lowR
  split
  · exact right_min (c := fun _ => c j) (d := fun _ => v) (k := 0) (h j) hv
  · exact h j
theorem low_rows {n m i j : Nat} {c : Row} {v : Int} (hm : m = (n + 1) * (n + 1)) (hi : i ≤ n) (hj : j ≤ n) : rowsL n (limK (one1 i j v) 1 (oR n c m)) (n + 1) = listOf (lowR c (i * (n + 1) + j) v) m := by
  refine rows_of hm fun a b ha hb => eq_of_le fun x => ?_
  rw [le_limK, oR_at hm ha hb]
  unfold lowR one1
  simp only [Int.toNat_natCast]
  constructor
  · rintro ⟨h1, h2⟩
    split
    · rename_i e
      obtain ⟨rfl, rfl⟩ := pos_inj hb hj e
      exact Int.le_min.2 ⟨h1, h2 0 (by omega) rfl rfl⟩
    · exact h1
  · intro h
    split at h
    · rename_i e
      obtain ⟨rfl, rfl⟩ := pos_inj hb hj e
      exact ⟨(Int.le_min.1 h).1, fun _ _ _ _ => (Int.le_min.1 h).2⟩
    · rename_i e
      refine ⟨h, fun _ _ h1 h2 => absurd ?_ e⟩
      rw [← h1, ← h2]
theorem con_one (b n m i j g : Nat) (c : Row) (v : Int) (w : World) (hn : n ≤ 8) (hm : m = (n + 1) * (n + 1)) (hz : ZoneAt w b n c) (hc : C32 c) (zc : ZC n m c) (hi : i ≤ n) (hj : j ≤ n) (hv : rightB v = true) (v0 : -2147483648 ≤ v) (v1 : v ≤ 2147483647)
    (c0 : w.cell? ⟨g, 0, none⟩ = some (.int .i64 i)) (c1 : w.cell? ⟨g, 1, none⟩ = some (.int .i64 j)) (c2 : w.cell? ⟨g, 2, none⟩ = some (.int .i32 v)) :
    Calls Tryz.prog 82 #[.pointer (some ⟨b, 0, none⟩), .slice (some ⟨g, 0, none⟩) 1 1] w fun e w' => ZoneOut w' w.heap.size n e (conZ n m c (i * (n + 1) + j) v) ∧ Below w.heap.size w w' := by
  have hR : LimRow w g 0 (one1 i j v) := fun k hk => by
    obtain rfl : k = 0 := by have : k < 1 := hk; omega
    exact ⟨c0, c1, c2⟩
  refine (con_main b n g 0 1 c (one1 i j v) w hn hz hc hR (World.block_lt_of_cell? _ _ c0) (fun k _ => ⟨v0, v1⟩) (by show (1 : Nat) ≤ _; omega)).mono fun e w' ⟨h, hb⟩ => ⟨?_, hb⟩
  have hb1 : bndA n (one1 i j v) 1 = true := by
    show (true && decide (0 ≤ (i : Int) ∧ (i : Int) ≤ (n : Int) ∧ 0 ≤ (j : Int) ∧ (j : Int) ≤ (n : Int))) = true
    rw [decide_eq_true (by omega)]
    rfl
  have hr1 : rgtA (one1 i j v) 1 = true := by simp only [rgtA, one1, Bool.true_and, hv]
  rcases h with ⟨h, -⟩ | ⟨-, h, -⟩ | ⟨-, -, h⟩
  · rw [show (one1 (↑i) (↑j) v).q = 1 from rfl, hb1] at h
    cases h
  · rw [show (one1 (↑i) (↑j) v).q = 1 from rfl, hr1] at h
    cases h
  · refine ops_of hm h ?_ (low_right (zc_right hm zc) hv)
    rw [← hm]
    exact low_rows hm hi hj
end Go.Proofs.YtnfkmpickmonoaaGreat

/-
  fed: Dim and Empty of zones, nil or not.
-/
namespace Go.Proofs.YtnfkmpickmonoaaGreat
open Go.RowKit
set_option linter.unusedVariables false
set_option maxRecDepth 100000
/-! ### Dim, Empty, and nil -/
theorem zdim_any (b n : Nat) (c : Row) (w : World) (hz : ZoneAt w b n c) : Calls Tryz.prog 30 #[.pointer (some ⟨b, 0, none⟩)] w fun e w' => e = .returned (.int .i64 n) ∧ w' = w := by
  have h0 := hz.clocks
  clear hz
  go_enter Tryz.func30, Tryz.ntmps30
  go_wp2_with fail
  go_ret
  exact ⟨rfl, rfl⟩
theorem rdim_any {w : World} {B b n : Nat} {l : List Int} (h : RZone w B b n l) : Calls Tryz.prog 32 #[.pointer (some ⟨b, 0, none⟩)] w fun e w' => e = .returned (.int .i64 n) ∧ w' = w := by
  obtain ⟨g, cap, h0, -⟩ := h
  go_enter Tryz.func32, Tryz.ntmps32
  go_wp2_with fail
  go_ret
  exact ⟨rfl, rfl⟩
theorem zempty_any (b n : Nat) (c : Row) (w : World) (hn : n ≤ 8) (hz : ZoneAt w b n c) :
    Calls Tryz.prog 60 #[.pointer (some ⟨b, 0, none⟩)] w fun e w' => e = .returned (.bool (decide (c 0 < 1))) ∧ Below w.heap.size w w' := by
  have H := hideD (hollow_any b n c w hn hz)
  generalize decide (c 0 < 1) = q at *
  clear hz
  go_enter Tryz.func60, Tryz.ntmps60
  go_wp2_with fail
  refine H.out.mono ?_
  rintro e w' ⟨rfl, hb⟩
  go_wp2_with fail
  go_ret
  exact ⟨rfl, hb⟩
end Go.Proofs.YtnfkmpickmonoaaGreat
