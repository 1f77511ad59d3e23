/-
  The walk of the statement OpsHull.
-/
import Derived.Test.YtfhfdpapppgfpaaGreatDoorWwz
namespace Go.Proofs.YtfhfdpapppgfpaaGreatDoor
open Go.RowKit
set_option linter.unusedVariables false
set_option maxRecDepth 100000
theorem ptrs_apart {w : World} {base q b n : Nat} {T : TypeId} {u : Value} {zs : List (Nat × Row)} {c : Row} (h : w.ownsRow base T 1 u q (zs.map pv)) (hq : zs.length = q) (h0 : q = 0 → u = .slice none 0 0) (hz : ZoneAt w b n c) : some b ≠ u.ownBlock := by
  intro e
  rcases h.2 with ⟨hv, _⟩ | ⟨g, cap, cur, hv, _⟩
  · subst hv; simp [Value.ownBlock] at e
  · by_cases q0 : q = 0
    · rw [h0 q0] at e; simp [Value.ownBlock] at e
    · subst hv
      simp [Value.ownBlock] at e
      subst e
      have c1 := h.cellAt 0 (by omega)
      rw [hz.clocks, List.getElem?_map] at c1
      have e : zs[0]? = some (zs.getD 0 (0, fun _ => 0)) := by simp [List.getD, show 0 < zs.length by omega]
      rw [e] at c1
      simp [pv] at c1
theorem ZoneAt.grown {w w' : World} {b n : Nat} {c : Row} {row : Option Nat} (h : ZoneAt w b n c) (hg : w.grownBy w' row) (hr : some b ≠ row) : ZoneAt w' b n c :=
  have k := hg.block b h.lt hr
  ⟨(World.cell?_of_block k).trans h.clocks, fun j hj => (World.cell?_of_block (a := ⟨b, 1 + j, none⟩) k).trans (h.cell j hj), fun j hj => (World.frozen?_of_block (a := ⟨b, 1 + j, none⟩) k).trans (h.free j hj)⟩
end Go.Proofs.YtfhfdpapppgfpaaGreatDoor
