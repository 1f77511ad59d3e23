/-
  Includes of an empty zone.
-/
import Derived.Test.YtfamdajjfpjlaaaDoorDk
namespace Go.Proofs.YtfamdajjfpjlaaaDoor
open Go.RowKit
set_option linter.unusedVariables false
set_option maxRecDepth 100000
set_option maxHeartbeats 4000000 in
theorem includes_empty (b o n : Nat) (c d : Row) (w : World) (hz : ZoneAt w b n c) (hy : ZoneAt w o n d) (hn : n ≤ 8) (hd : decide (d 0 < 1) = true) :
    Calls Tryd.prog 43 #[.pointer (some ⟨b, 0, none⟩), .pointer (some ⟨o, 0, none⟩)] w fun e w' => e = .returned (.bool true) ∧ Below w.heap.size w w' := by
  have HA := hideD (alike_same b o n c d w hz hy)
  have HH : Hid (∀ w', Below w.heap.size w w' → Calls Tryd.prog 90 #[.pointer (some ⟨o, 0, none⟩)] w' fun e w'' => e = .returned (.bool (decide (d 0 < 1))) ∧ Below w'.heap.size w' w'') := fun w' hb => hollow_any o n d w' hn (hy.past hb)
  clear hz hy
  rw [hd] at HH
  clear hd
  go_enter Tryd.func43, Tryd.ntmps43
  go_wp2_with fail
  refine HA.out.mono ?_
  rintro e w1 ⟨rfl, k, rfl⟩
  have B1 := hideD (below_draw w k)
  generalize w.drewN k = W at *
  go_wp2_with fail
  have B2 := B1.out
  first
  | go_region_with
    (go_at_call 90; refine (HH.out _ (by first | with_reducible assumption | with_reducible exact Below.drew (by with_reducible assumption))).mono ?_; rintro e w' ⟨rfl, hb⟩; have h3 := beyondD (w := w) (by first | with_reducible assumption | with_reducible exact Below.drew (by with_reducible assumption)) hb; clear hb)
  | fail
  all_goals go_wp2_with fail
  all_goals go_ret
  all_goals exact ⟨by first | rfl | simp, by assumption⟩
end Go.Proofs.YtfamdajjfpjlaaaDoor
