/-
  What both say of a row of bounds: the contract of 'both'.
-/
import Derived.Test.YtfamdajjfpjlaaaDoorEh
namespace Go.Proofs.YtfamdajjfpjlaaaDoor
open Go.RowKit
set_option linter.unusedVariables false
set_option maxRecDepth 100000
theorem rcells_nil (w : World) : Calls Tryd.prog 66 #[.pointer none] w fun e w' => e = .returned (.slice none 0 0) ∧ w' = w := by
  go_enter Tryd.func66, Tryd.ntmps66
  go_wp2_with fail
  go_ret
  exact ⟨rfl, rfl⟩
theorem zcells_nil (w : World) : Calls Tryd.prog 65 #[.pointer none] w fun e w' => e = .returned (.slice none 0 0) ∧ w' = w := by
  go_enter Tryd.func65, Tryd.ntmps65
  go_wp2_with fail
  go_ret
  exact ⟨rfl, rfl⟩
set_option maxHeartbeats 1000000 in
theorem rcells_any (b g n cap m : Nat) (l : List Int) (w : World) (hl : l.length = m) (h81 : m ≤ 81) (hp : 0 < m) (h1 : w.cell? ⟨b, 1, none⟩ = some (.slice (some ⟨g, 0, none⟩) m cap)) (hR : RowAt w g 0 l) :
    Calls Tryd.prog 66 #[.pointer (some ⟨b, 0, none⟩)] w fun e w' => (∃ v, e = .returned v ∧ OwnRow w' w.heap.size v l) ∧ Below w.heap.size w w' := by
  obtain ⟨i0, hi, hz0, hz1, hz2⟩ := info_parts info_bd
  have HN : Hid (∀ j u, (l.map (Value.int .i32))[j]? = some u → w.cell? ((⟨g, 0, none⟩ : Addr).add j) = some u) := by
    intro j u hu
    rw [Addr.add_lit]
    by_cases hj : j < l.length
    · rw [hR j hj]
      simp [hj] at hu
      simp [List.getD, hj, hu]
    · rw [List.getElem?_eq_none (by simp; omega)] at hu
      cases hu
  clear hR
  go_enter Tryd.func66, Tryd.ntmps66
  go_wp2_with (at_builtin; refine wpList_append_own _ rfl _ _ 22 rfl w.heap.size 79 i0 (.int .i32 0) 1 4 Tryd.underlying22 hi hz0 hz1 hz2 rfl (by decide) _ 0 [] rfl (World.ownsRow_nil _ _ _ _) ⟨g, 0, none⟩ m cap (l.map (Value.int .i32)) rfl (by simp [hl]) HN.out (fun x hx => by obtain ⟨z, _, rfl⟩ := List.mem_map.1 hx; rfl) (by unfold maxLen; omega) (by omega) (Nat.le_refl _) ?_; intro v' w2 hown hgrow hnil)
  have hb2 : Below w.heap.size w w2 := (Below.refl _ _).grown hgrow (Nat.le_refl _) (by intro k hk; cases hk)
  go_ret
  refine ⟨⟨v', rfl, ?_⟩, hb2⟩
  rcases hown.2 with ⟨rfl, hn0⟩ | ⟨g', cap', cur, rfl, hg, h2, h3, h4, h5, h6⟩
  · exfalso
    omega
  · have hrow : RowAt w2 g' 0 l := fun j hj => by
      have hc := World.ownsRow.cells hown (g := g') rfl j (.int .i32 (l.getD j 0)) (by simp [List.getD, hj])
      rw [Addr.add_lit] at hc
      exact hc
    refine ⟨g', cap', by rw [hl]; simp, hg, ?_, hrow⟩
    exact World.block_lt_of_cell? _ _ (hrow 0 (by omega))
end Go.Proofs.YtfamdajjfpjlaaaDoor
