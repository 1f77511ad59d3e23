/-
  A slice of 32-bit numbers inside what is handed over, opened.
-/
import Derived.Test.YtfffcmelkdmjaaaDoorOuz
import Derived.Test.YtfffcmelkdmjaaaDoorOmz
namespace Go.Proofs.YtfffcmelkdmjaaaDoor
open Go.ChangeShapes Go.WideShapes Go.ChangeAt Go.RowKit Go.Deep
set_option linter.unusedVariables false
theorem open_us {H : Type} {enc : TypeId × Value → H} {P : Program} {w : World} {base : Nat} {spare : Nat → Bool} {held : Bool} {fuel : Nat} {t e : TypeId} {v : Value} {x : DataW H × List MemPlace}
    (ht : P.underlying t = some (.slice e)) (he : P.underlying e = some (.int .u32)) (hc : P.cellsOf e = 1) (h : DataW.trod enc P w base spare held fuel t [v] = some x) : ∃ l : List Int, UsAt w v l ∧ (∀ z ∈ l, (Lit.int .u32 z).wf = true) ∧ l.length ≤ 9223372036854775807 := by
  rcases open_ints ht he hc h with ⟨hcs, _⟩ | ⟨a, len, cap, zs, hcs, _, hl, hm, hz, hx, hcell, hwz⟩
  · simp at hcs
    exact ⟨[], .inl ⟨_, _, hcs, rfl⟩, by simp, by simp⟩
  · simp at hcs
    subst hcs
    have hlz : len ≤ zs.length := by rw [hz]; split <;> omega
    have tl : (zs.take len).length = len := by simp; omega
    refine ⟨zs.take len, ?_, fun z hz' => hwz z (List.mem_of_mem_take hz'), by rw [tl]; unfold maxLen at hm; omega⟩
    by_cases hp : 0 < len
    · obtain ⟨bk, off, rfl, hc⟩ := ints_at hcell (by omega)
      refine .inr ⟨bk, off, cap, by rw [tl], fun j hj => ?_⟩
      rw [tl] at hj
      rw [hc j (by omega)]
      simp [List.getD, hj]
    · obtain rfl : len = 0 := by omega
      exact .inl ⟨_, _, rfl, by simp⟩
end Go.Proofs.YtfffcmelkdmjaaaDoor
