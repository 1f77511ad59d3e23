/-
  The statement on the places of tokens: its walk.
-/
import Derived.Test.YtdofnjlnleofjaaDoorMr
namespace Go.Proofs.YtdofnjlnleofjaaDoor
open Go.RowKit
set_option linter.unusedVariables false
theorem all_good (s : ByteArray) (hs : s.size ≤ 1000000000000) (q : ∀ x ∈ itemsL s, x.2.2.2.2 = 0) (w : World) : Calls Tryd.prog 4 #[.string s] w fun x W => ∃ g cap, x = .returned (.tuple #[.slice (some ⟨g, 0, none⟩) (itemsL s).length cap, .int .i64 0, .int .i64 0]) ∧ RowL W g (itemsL s) ∧ Below w.heap.size w W := by
  obtain ⟨k, hk⟩ := items_some s
  refine (all_any s hs w).mono ?_
  rintro e W ⟨⟨x, h1, h2, -⟩ | ⟨v, -, rfl, hr⟩, hb⟩
  · exact absurd (q x (List.mem_of_getLast? h1)) h2
  · have hr' := hr
    rw [hk] at hr'
    obtain ⟨g, cap, rfl⟩ := ownsRow_succ hr'
    exact ⟨g, cap, by rw [hk], rowL_of hr, hb⟩
theorem all_bad (s : ByteArray) (hs : s.size ≤ 1000000000000) (q : ¬ ∀ x ∈ itemsL s, x.2.2.2.2 = 0) : ∃ e a : Int, ¬ e = 0 ∧ ∀ w, Calls Tryd.prog 4 #[.string s] w fun x W => x = .returned (.tuple #[.slice none 0 0, .int .i64 e, .int .i64 a]) ∧ Below w.heap.size w W := by
  obtain ⟨x, hm, z⟩ : ∃ x, x ∈ itemsL s ∧ ¬ x.2.2.2.2 = 0 := by
    apply Classical.byContradiction
    intro h
    exact q fun x hx => Classical.byContradiction fun g => h ⟨x, hx, g⟩
  have hx := items_err s _ _ x hm z
  refine ⟨x.2.2.2.2, x.2.2.2.1, z, fun w => (all_any s hs w).mono ?_⟩
  rintro e W ⟨⟨y, h1, h2, h3⟩ | ⟨v, h, -, -⟩, hb⟩
  · rw [show (itemsL s).getLast? = some x from hx] at h1
    injection h1 with h1
    subst h1
    exact ⟨h3, hb⟩
  · exact absurd h q
namespace lexPlaces
end lexPlaces
end Go.Proofs.YtdofnjlnleofjaaDoor
