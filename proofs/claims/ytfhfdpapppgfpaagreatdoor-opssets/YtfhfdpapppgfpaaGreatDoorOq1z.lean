/-
  What the statements of ops ask of valuations in twelfths: does one keep a bound, is it in a zone.
-/
import Derived.Test.YtfhfdpapppgfpaaGreatDoorZc
import Derived.Test.YtfhfdpapppgfpaaGreatDoorZk
import Derived.Test.YtfhfdpapppgfpaaGreatDoorZb
import Derived.Deep.CutBlock
import Derived.Deep.DeepCutAuto
import Derived.Deep.LoopGhost
import Derived.Deep.QuietTactic
import Derived.BigQuiet
namespace Go.Proofs.YtfhfdpapppgfpaaGreatDoor
open Go.RowKit
set_option linter.unusedVariables false
set_option maxRecDepth 100000
theorem add_at (cb off j : Nat) : (⟨cb, off, none⟩ : Addr).add j = ⟨cb, off + j, none⟩ := by
  unfold Addr.add
  split
  · simp_all
  · simp_all
theorem own_one (w : World) (x : Value) (e : TypeId) : (w.alloc (.cells #[x] e)).ownsRow w.heap.size e 1 (.slice (some ⟨w.heap.size, 0, none⟩) 1 1) 1 [x] :=
  ⟨by simp, .inr ⟨w.heap.size, 1, #[x], rfl, Nat.le_refl _, heap_alloc_new w _, Nat.le_refl _, by unfold maxLen; omega, by simp, by simp⟩⟩
/-- A valuation, 0 ahead. -/
def ptV (l : List Int) (j : Nat) : Int := (0 :: l).getD j 0
theorem info_i64' : (Tryz.prog.info? 2).map (fun i => (i.zero, i.size, i.bytes)) = some (some (.int .i64 0), 1, 8) := by kernel_rfl
theorem ptV_bd {l : List Int} {B : Int} (hB : 0 ≤ B) (h : ∀ x ∈ l, 0 ≤ x ∧ x ≤ B) (j : Nat) : 0 ≤ ptV l j ∧ ptV l j ≤ B := by
  unfold ptV
  match j with
  | 0 => simp; exact hB
  | j + 1 =>
    by_cases hj : j < l.length
    · have e : (0 :: l).getD (j + 1) 0 = l[j] := by simp [List.getD, hj]
      rw [e]; exact h _ (List.getElem_mem hj)
    · have e : (0 :: l).getD (j + 1) 0 = 0 := by simp [List.getD, hj]
      rw [e]; exact ⟨by omega, hB⟩
/-- An own row with one number more ahead of what is handed over. -/
def RowV (w : World) (v : Value) (base : Nat) (l : List Int) : Prop := ∃ g cap, v = .slice (some ⟨g, 0, none⟩) l.length cap ∧ base ≤ g ∧ (∀ j, j < l.length → w.cell? ⟨g, j, none⟩ = some (.int .i64 (l.getD j 0))) ∧ ∀ a, w.frozen? ⟨g, a, none⟩ = false
end Go.Proofs.YtfhfdpapppgfpaaGreatDoor
