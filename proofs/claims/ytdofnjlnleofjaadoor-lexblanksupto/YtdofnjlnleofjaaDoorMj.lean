/-
  What must be whatever is asked (live), and lex.Next against the document's.
-/
import Derived.Test.YtdofnjlnleofjaaDoorMh
import Derived.Test.YtdofnjlnleofjaaDoorMi
namespace Go.Proofs.YtdofnjlnleofjaaDoor
open Go.RowKit
set_option linter.unusedVariables false
def five : ByteArray := ⟨#[120, 60, 61, 53, 59]⟩
def fiveI : List Item := [(1, ⟨#[120]⟩, 0, 0, 0), (3, ⟨#[60, 61]⟩, 0, 1, 0), (2, ⟨#[53]⟩, 5, 3, 0), (3, ⟨#[59]⟩, 0, 4, 0), (0, ⟨#[]⟩, 0, 5, 0)]
theorem five_items : itemsL five = fiveI := by rfl
theorem all_any (s : ByteArray) (hs : s.size ≤ 1000000000000) (w : World) : Calls Tryd.prog 4 #[.string s] w fun e W' => AllR s w e W' := callsIn_wide.1 (all_in s hs w)
theorem row_cell {w : World} {base : Nat} {e : TypeId} {size n k cap g : Nat} {xs : List Value} (h : w.ownsRow base e size (.slice (some ⟨g, 0, none⟩) k cap) n xs) (j : Nat) (u : Value) (hu : xs[j]? = some u) : w.cell? ⟨g, j, none⟩ = some u := by
  have := h.cells (g := g) rfl j u hu
  have hadd : (⟨g, 0, none⟩ : Addr).add j = ⟨g, j, none⟩ := by unfold Addr.add; split <;> simp_all
  rw [hadd] at this
  exact this
theorem all_five (w : World) : Calls Tryd.prog 4 #[.string ⟨#[120, 60, 61, 53, 59]⟩] w fun e W' => ∃ g cap, e = .returned (.tuple #[.slice (some ⟨g, 0, none⟩) 5 cap, .int .i64 0, .int .i64 0]) ∧ W'.cell? ⟨g, 5, none⟩ = some (.string ⟨#[60, 61]⟩) ∧ W'.cell? ⟨g, 10, none⟩ = some (.int .i64 5) ∧ W'.cell? ⟨g, 16, none⟩ = some (.int .u8 0) ∧ g < W'.heap.size ∧ Below w.heap.size w W' := by
  refine (all_any five (by decide) w).mono ?_
  rintro e W ⟨h | h, hb⟩
  · obtain ⟨x, h1, h2, -⟩ := h
    rw [five_items] at h1
    injection h1 with h1
    rw [← h1] at h2
    exact absurd rfl h2
  · obtain ⟨v, -, rfl, hr⟩ := h
    rw [five_items] at hr
    obtain ⟨g, cap, rfl⟩ := ownsRow_succ (k := 4) hr
    exact ⟨g, cap, rfl, row_cell hr 5 _ rfl, row_cell hr 10 _ rfl, row_cell hr 16 _ rfl, (hr.lt g rfl).2, hb⟩
set_option maxRecDepth 100000 in
set_option maxHeartbeats 1000000 in
theorem live_any (w : World) (hk : Kept w) : Calls Tryd.prog 5 #[] w fun e w' => e = .returned (.bool true) ∧ Below w.heap.size w w' := by
  have HA := hideR (all_five w)
  have HK := hideR hk
  have HN : Hid (∀ w, Kept w → Calls Tryd.prog 7 #[.string ⟨#[120, 95, 49]⟩] w fun e w' => e = .returned (.bool true) ∧ w' = w) := fun w h => isName_any ⟨#[120, 95, 49]⟩ w h (by decide)
  have HC : Hid (∀ w, Kept w → Calls Tryd.prog 7 #[.string ⟨#[99, 108, 111, 99, 107]⟩] w fun e w' => e = .returned (.bool false) ∧ w' = w) := fun w h => isName_any ⟨#[99, 108, 111, 99, 107]⟩ w h (by decide)
  clear hk
  go_enter Tryd.func5, Tryd.ntmps5
  go_wp2_with fail
  refine HA.out.mono ?_
  rintro e W ⟨g, cap, rfl, c1, c2, c3, hg, hb⟩
  have HK2 := hideR (kept_later HK.out hb)
  clear HA HK
  go_wp2_with fail
  refine (HN.out _ HK2.out).mono ?_
  rintro e w1 ⟨rfl, rfl⟩
  go_wp2_with fail
  refine (HC.out _ HK2.out).mono ?_
  rintro e w1 ⟨rfl, rfl⟩
  go_wp2_with fail
  go_ret
  exact ⟨rfl, hb⟩
end Go.Proofs.YtdofnjlnleofjaaDoor
