/-
  The document's alike, Empty, Includes, Equal, Common, Meets.
-/
import Derived.Test.YtnfkmpickmonoaaQ21
import Derived.Test.YtnfkmpickmonoaaQ24
import Derived.Test.YtnfkmpickmonoaaQ27
namespace Go.Proofs.Ytnfkmpickmonoaa
open Go.RowKit
set_option linter.unusedVariables false
set_option maxRecDepth 100000
theorem RZone.past {w w' : World} {B r n : Nat} {l : List Int} (h : RZone w B r n l) (hb : Below w.heap.size w w') : RZone w' B r n l := by
  obtain ⟨g, cap, h0, h1, h2, h3, h4⟩ := h
  exact ⟨g, cap, kc _ _ hb h0, kc _ _ hb h1, h2, h3, fun j hj => kc _ _ hb (h4 j hj)⟩
theorem rempty_any {w : World} {B b n : Nat} {l : List Int} (h : RZone w B b n l) (hl : 0 < l.length) :
    Calls Try.prog 44 #[.pointer (some ⟨b, 0, none⟩)] w fun e w' => e = .returned (.bool (l.getD 0 0 != 1)) ∧ w' = w := by
  obtain ⟨g, cap, h0, h1, -, -, h4⟩ := h
  have a0 := h4 0 hl
  clear h4 h0
  generalize l.getD 0 0 = x at *
  generalize l.length = m at *
  have m0 : (0 : Int) < (m : Int) := by omega
  go_enter Try.func44, Try.ntmps44
  go_wp2
  go_ret
  exact ⟨rfl, rfl⟩
end Go.Proofs.Ytnfkmpickmonoaa

/-
  The document's Equal, Common, Meets.
-/
namespace Go.Proofs.Ytnfkmpickmonoaa
open Go.RowKit
set_option linter.unusedVariables false
set_option maxRecDepth 100000
/-! ### Common -/
set_option maxHeartbeats 1000000 in
theorem rcells_own (b g n cap m : Nat) (l : List Int) (w : World) (hl : l.length = m) (h81 : m ≤ 81) (hp : 0 < m) (h1 : w.cell? ⟨b, 1, none⟩ = some (.slice (some ⟨g, 0, none⟩) m cap)) (hR : RowAt w g 0 l) :
    Calls Try.prog 52 #[.pointer (some ⟨b, 0, none⟩)] w fun e w' => (∃ g' cap', e = .returned (.slice (some ⟨g', 0, none⟩) m cap') ∧ w.heap.size ≤ g' ∧ g' < w'.heap.size ∧ RowAt w' g' 0 l ∧ ∀ j, w'.frozen? ⟨g', j, none⟩ = false) ∧ Below w.heap.size w w' := by
  obtain ⟨i0, hi, hz0, hz1, hz2⟩ := info_parts info_bd
  have HN : Hid (∀ j u, (l.map (Value.int .i32))[j]? = some u → w.cell? ((⟨g, 0, none⟩ : Addr).add j) = some u) := by
    intro j u hu
    rw [Addr.add_lit]
    by_cases hj : j < l.length
    · rw [hR j hj]
      simp [hj] at hu
      simp [List.getD, hj, hu]
    · rw [List.getElem?_eq_none (by simp; omega)] at hu
      cases hu
  clear hR
  go_enter Try.func52, Try.ntmps52
  go_wp2_with (at_builtin; refine wpList_append_own _ rfl _ _ 25 rfl w.heap.size 67 i0 (.int .i32 0) 1 4 Try.underlying25 hi hz0 hz1 hz2 rfl (by decide) _ 0 [] rfl (World.ownsRow_nil _ _ _ _) ⟨g, 0, none⟩ m cap (l.map (Value.int .i32)) rfl (by simp [hl]) HN.out (fun x hx => by obtain ⟨z, _, rfl⟩ := List.mem_map.1 hx; rfl) (by unfold maxLen; omega) (by omega) (Nat.le_refl _) ?_; intro v' w2 hown hgrow hnil)
  have hb2 : Below w.heap.size w w2 := (Below.refl _ _).grown hgrow (Nat.le_refl _) (by intro k hk; cases hk)
  go_ret
  have hown' : w2.ownsRow w.heap.size 67 1 v' m (l.map (Value.int .i32)) := by simpa using hown
  obtain ⟨m', rfl⟩ : ∃ m', m = m' + 1 := ⟨m - 1, by omega⟩
  obtain ⟨g', cap', rfl⟩ := own_form hown'
  have lt := hown'.lt g' rfl
  refine ⟨⟨g', cap', rfl, lt.1, lt.2, fun j hj => ?_, fun j => hown'.frozenAt j⟩, hb2⟩
  rw [Nat.zero_add, hown'.cellAt j (by omega)]
  simp [List.getD, hj]
theorem listOf_congr (c d : Row) (m : Nat) (h : ∀ j, j < m → c j = d j) : listOf c m = listOf d m := by
  unfold listOf
  exact List.map_congr_left fun a ha => h a (by simpa using ha)
end Go.Proofs.Ytnfkmpickmonoaa

/-
  What two zones have in common, in numbers: And and Constrain by all cells are one.
-/
namespace Go.Proofs.Ytnfkmpickmonoaa
open Go.RowKit
set_option linter.unusedVariables false
set_option maxRecDepth 100000
theorem le_limM {r : Mat} {a b i j : Nat} {v x : Int} : x ≤ limM r a b v i j ↔ (x ≤ r i j ∧ (a = i → b = j → x ≤ v)) := by
  unfold limM upd
  by_cases e : i = a ∧ j = b
  · obtain ⟨rfl, rfl⟩ := e
    rw [if_pos ⟨rfl, rfl⟩]
    constructor
    · intro h; exact ⟨by omega, fun _ _ => by omega⟩
    · rintro ⟨h1, h2⟩; have := h2 rfl rfl; omega
  · rw [if_neg e]
    constructor
    · intro h; exact ⟨h, fun e1 e2 => absurd ⟨e1.symm, e2.symm⟩ e⟩
    · exact fun h => h.1
theorem le_limK {L : Lims} {r : Mat} {i j : Nat} {x : Int} : ∀ K, x ≤ limK L K r i j ↔ (x ≤ r i j ∧ ∀ k, k < K → (L.i k).toNat = i → (L.j k).toNat = j → x ≤ L.b k)
  | 0 => ⟨fun h => ⟨h, fun k hk => by omega⟩, fun h => h.1⟩
  | K + 1 => by
    rw [show limK L (K + 1) r = limM (limK L K r) (L.i K).toNat (L.j K).toNat (L.b K) from rfl, le_limM, le_limK K]
    constructor
    · rintro ⟨⟨h1, h2⟩, h3⟩
      refine ⟨h1, fun k hk e1 e2 => ?_⟩
      by_cases q : k = K
      · subst q; exact h3 e1 e2
      · exact h2 k (by omega) e1 e2
    · rintro ⟨h1, h2⟩
      exact ⟨⟨h1, fun k hk => h2 k (by omega)⟩, h2 K (by omega)⟩
theorem eq_of_le {a b : Int} (h : ∀ x, x ≤ a ↔ x ≤ b) : a = b := Int.le_antisymm ((h a).1 (Int.le_refl _)) ((h b).2 (Int.le_refl _))
theorem rows_of {n m : Nat} {M : Mat} {l : Row} (hm : m = (n + 1) * (n + 1)) (h : ∀ i j, i ≤ n → j ≤ n → M i j = l (i * (n + 1) + j)) : rowsL n M (n + 1) = listOf l m := by
  rw [rowsL, ← hm]
  refine listOf_congr _ _ _ fun k hk => ?_
  rw [hm] at hk
  unfold flat
  rw [h _ _ (by have := Nat.div_lt_of_lt_mul hk; omega) (by have := Nat.mod_lt k (show 0 < n + 1 by omega); omega), Nat.mul_comm, Nat.div_add_mod]
theorem oR_at {n m : Nat} {c : Row} (hm : m = (n + 1) * (n + 1)) {i j : Nat} (hi : i ≤ n) (hj : j ≤ n) : oR n c m i j = c (i * (n + 1) + j) := by
  unfold oR
  rw [if_pos ⟨hj, by rw [hm]; exact pos_lt hi hj⟩]
/-- All cells may be. -/
theorem zc_right {n m : Nat} {c : Row} (hm : m = (n + 1) * (n + 1)) (h : ZC n m c) (k : Nat) : rightB (c k) = true := by
  rcases h with rfl | ⟨p, hp⟩
  · rfl
  · rw [hp.cells]
    unfold cellsUpto
    split
    · exact narB_right _
    · rfl
theorem right_min {c d : Row} {k : Nat} (h1 : rightB (c k) = true) (h2 : rightB (d k) = true) : rightB (minR c d k) = true := by
  have e : minR c d k = c k ∨ minR c d k = d k := by unfold minR; omega
  rcases e with e | e
  · rw [e]; exact h1
  · rw [e]; exact h2
end Go.Proofs.Ytnfkmpickmonoaa

/-
  The walk of the statement OpsCells.
-/
namespace Go.Proofs.Ytnfkmpickmonoaa
open Go.RowKit
set_option linter.unusedVariables false
set_option maxRecDepth 100000
theorem ops_of {w' : World} {B n m : Nat} {e : Ending} {M : Mat} {l : Row} (hm : m = (n + 1) * (n + 1)) (h : OpsOut w' B n e M) (hr : rowsL n M (n + 1) = listOf l m) (hl : ∀ k, rightB (l k) = true) : ZoneOut w' B n e (zoneR n (drf n m (listOf l m))) := by
  have ha : allRight (listOf l m) m = true := allRight_of _ _ fun j hj => by rw [listOf_get _ _ _ hj]; exact hl j
  unfold OpsOut at h
  rw [hr, ← hm, ha] at h
  rcases h with ⟨h, -⟩ | ⟨-, h⟩
  · cases h
  · exact h
end Go.Proofs.Ytnfkmpickmonoaa
