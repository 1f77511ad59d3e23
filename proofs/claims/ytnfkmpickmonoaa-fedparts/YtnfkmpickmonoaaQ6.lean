/-
  The contracts of Zone.Cells, Includes, Equal, Key.
-/
import Derived.Test.YtnfkmpickmonoaaQ5
import Derived.OwnWalk
import Derived.Laws.AppendOwn
import Derived.Deep.MidRow
import Derived.Laws.StructEq
namespace Go.Proofs.Ytnfkmpickmonoaa
open Go.RowKit
set_option linter.unusedVariables false
set_option maxRecDepth 100000
theorem info_bd : (Try.prog.info? 67).map (fun i => (i.zero, i.size, i.bytes)) = some (some (.int .i32 0), 1, 4) := by kernel_rfl
/-- The used cells, as a list. -/
def listOf (c : Row) (m : Nat) : List Int := (List.range m).map c
theorem listOf_len (c : Row) (m : Nat) : (listOf c m).length = m := by simp [listOf]
theorem listOf_get (c : Row) (m j : Nat) (h : j < m) : (listOf c m).getD j 0 = c j := by simp [listOf, List.getD, h]
/-- A row that the call made itself. -/
def OwnRow (w : World) (B : Nat) (v : Value) (l : List Int) : Prop := ∃ g cap, v = .slice (some ⟨g, 0, none⟩) l.length cap ∧ B ≤ g ∧ g < w.heap.size ∧ RowAt w g 0 l
set_option maxHeartbeats 1000000 in
theorem cells_any (b n : Nat) (c : Row) (w : World) (hz : ZoneAt w b n c) (hn : n ≤ 8) :
    Calls Try.prog 51 #[.pointer (some ⟨b, 0, none⟩)] w fun e w' => (∃ v, e = .returned v ∧ OwnRow w' w.heap.size v (listOf c ((n + 1) * (n + 1)))) ∧ Below w.heap.size w w' := by
  have HU := hideD (used_any b n w hn hz.clocks)
  have hm : (n + 1) * (n + 1) ≤ 81 := Nat.mul_le_mul (show n + 1 ≤ 9 by omega) (show n + 1 ≤ 9 by omega)
  have hp : 0 < (n + 1) * (n + 1) := Nat.mul_pos (by omega) (by omega)
  generalize (n + 1) * (n + 1) = m at *
  have hl := listOf_len c m
  obtain ⟨i0, hi, hz0, hz1, hz2⟩ := info_parts info_bd
  have HZ := hideD hz
  clear hz
  go_enter Try.func51, Try.ntmps51
  go_wp2_with fail
  refine HU.out.mono ?_
  rintro e w1 ⟨rfl, hb⟩
  have hZ1 := hideD (HZ.out.past hb)
  have hB1 := hideD hb
  have HN : Hid (∀ j u, ((listOf c m).map (Value.int .i32))[j]? = some u → w1.cell? ((⟨b, 1, none⟩ : Addr).add j) = some u) := by
    intro j u hu
    rw [Addr.add_lit]
    by_cases hj : j < m
    · rw [hZ1.out.cell j (by omega)]
      simp [listOf, hj] at hu
      simp [hu]
    · rw [List.getElem?_eq_none (by simp [hl]; omega)] at hu
      cases hu
  clear hb HU HZ
  go_wp2_with (at_builtin; refine wpList_append_own _ rfl _ _ 25 rfl w1.heap.size 67 i0 (.int .i32 0) 1 4 Try.underlying25 hi hz0 hz1 hz2 rfl (by decide) _ 0 [] rfl (World.ownsRow_nil _ _ _ _) ⟨b, 1, none⟩ m 81 ((listOf c m).map (Value.int .i32)) rfl (by simp [hl]) HN.out (fun x hx => by obtain ⟨z, _, rfl⟩ := List.mem_map.1 hx; rfl) (by unfold maxLen; omega) (by omega) (Nat.le_refl _) ?_; intro v' w2 hown hgrow hnil)
  have hb2 : Below w1.heap.size w1 w2 := (Below.refl _ _).grown hgrow (Nat.le_refl _) (by intro k hk; cases hk)
  go_ret
  refine ⟨⟨v', rfl, ?_⟩, beyondD hB1.out hb2⟩
  rcases hown.2 with ⟨rfl, hn0⟩ | ⟨g, cap, cur, rfl, hg, h2, h3, h4, h5, h6⟩
  · exfalso
    simp at hn0
    omega
  · have hrow : RowAt w2 g 0 (listOf c m) := fun j hj => by
      have hc := World.ownsRow.cells hown (g := g) rfl j (.int .i32 ((listOf c m).getD j 0)) (by simp [List.getD, hj])
      rw [Addr.add_lit] at hc
      exact hc
    refine ⟨g, cap, by rw [hl]; simp, Nat.le_trans hB1.out.size hg, ?_, hrow⟩
    exact World.block_lt_of_cell? _ _ (hrow 0 (by rw [hl]; exact hp))
end Go.Proofs.Ytnfkmpickmonoaa

/-
  The contracts of alike, Zone.Equal, Includes.
-/
namespace Go.Proofs.Ytnfkmpickmonoaa
open Go.RowKit
set_option linter.unusedVariables false
set_option maxRecDepth 100000
theorem alike_raw (b o : Nat) (n m : Int) (w : World) (h1 : w.cell? ⟨b, 0, none⟩ = some (.int .i64 n)) (h2 : w.cell? ⟨o, 0, none⟩ = some (.int .i64 m)) :
    Calls Try.prog 61 #[.pointer (some ⟨b, 0, none⟩), .pointer (some ⟨o, 0, none⟩)] w fun e w' => e = .returned (.bool (n == m)) ∧ ∃ k, w' = w.drewN k := by
  go_enter Try.func61, Try.ntmps61
  go_wp2_with fail
  go_quiet (fail)
  go_wp2_with fail
  go_ret
  exact ⟨rfl, _, rfl⟩
theorem alike_same (b o n : Nat) (c d : Row) (w : World) (hz : ZoneAt w b n c) (hy : ZoneAt w o n d) :
    Calls Try.prog 61 #[.pointer (some ⟨b, 0, none⟩), .pointer (some ⟨o, 0, none⟩)] w fun e w' => e = .returned (.bool true) ∧ ∃ k, w' = w.drewN k := by
  have := alike_raw b o n n w hz.clocks hy.clocks
  simpa using this
theorem includes_some (b o n : Nat) (c d : Row) (w : World) (hz : ZoneAt w b n c) (hy : ZoneAt w o n d) (hn : n ≤ 8) (hd : decide (d 0 < 1) = false) :
    Calls Try.prog 24 #[.pointer (some ⟨b, 0, none⟩), .pointer (some ⟨o, 0, none⟩)] w fun e w' => e = .returned (.bool (nless c d ((n + 1) * (n + 1)))) ∧ Below w.heap.size w w' := by
  have HA := hideD (alike_same b o n c d w hz hy)
  have HH : Hid (∀ w', Below w.heap.size w w' → Calls Try.prog 64 #[.pointer (some ⟨o, 0, none⟩)] w' fun e w'' => e = .returned (.bool (decide (d 0 < 1))) ∧ Below w'.heap.size w' w'') := fun w' hb => hollow_any o n d w' hn (hy.past hb)
  have HN : Hid (∀ w', Below w.heap.size w w' → Calls Try.prog 65 #[.pointer (some ⟨b, 0, none⟩), .pointer (some ⟨o, 0, none⟩)] w' fun e w'' => e = .returned (.bool (nless c d ((n + 1) * (n + 1)))) ∧ Below w'.heap.size w' w'') := fun w' hb => nless_any b o n c d w' hn (hz.past hb) (hy.past hb)
  generalize nless c d ((n + 1) * (n + 1)) = q at *
  clear hz hy
  rw [hd] at HH
  go_enter Try.func24, Try.ntmps24
  go_wp2_with fail
  refine HA.out.mono ?_
  rintro e w1 ⟨rfl, k, rfl⟩
  have B1 := hideD (below_draw w k)
  generalize w.drewN k = W at *
  go_wp2_with fail
  have B2 := B1.out
  go_region_held3 (fun w' => Below w.heap.size w w')
    (first | assumption | exact Below.drew (by assumption))
    (first
      | (go_at_call 64; refine (HH.out _ (by first | assumption | exact Below.drew (by assumption))).mono ?_; rintro e w' ⟨rfl, hb⟩; have h3 := beyondD (w := w) (by first | assumption | exact Below.drew (by assumption)) hb)
      | (go_at_call 65; refine (HN.out _ (by first | assumption | exact Below.drew (by assumption))).mono ?_; rintro e w' ⟨rfl, hb⟩; have h4 := beyondD (w := w) (by first | assumption | exact Below.drew (by assumption)) hb))
  all_goals
    go_wp2_with fail
    go_ret
    exact ⟨by first | rfl | simp, by assumption⟩
end Go.Proofs.Ytnfkmpickmonoaa
