/-
  The document's nils: the error of zones that are to be joined.
-/
import Derived.Test.YtfhfdpapppgfpaaGreatDoorWxz
namespace Go.Proofs.YtfhfdpapppgfpaaGreatDoor
open Go.RowKit
set_option linter.unusedVariables false
set_option maxRecDepth 100000
theorem rdim_raw (b : Nat) (n : Int) (w : World) (h : w.cell? ⟨b, 0, none⟩ = some (.int .i64 n)) :
    Calls Tryz.prog 34 #[.pointer (some ⟨b, 0, none⟩)] w fun e w' => e = .returned (.int .i64 n) ∧ w' = w := by
  go_enter Tryz.func34, Tryz.ntmps34
  go_wp2_with fail
  go_ret
  exact ⟨rfl, rfl⟩
theorem jn_eleven {n : Nat} {l : List ZP} : ∀ {k : Nat} (m : Nat), k ≤ m → nn l m = true → jn n l k = 11 → jn n l m = 11 := by
  intro k m h hn e
  induction m with
  | zero => obtain rfl : k = 0 := by omega
            exact e
  | succ m ih =>
    by_cases q : k = m + 1
    · subst q; exact e
    · simp only [nn, Bool.and_eq_true] at hn
      have := ih (by omega) hn.1
      unfold jn
      cases l.getD m none with
      | none => exact this
      | some x =>
        obtain ⟨_, y⟩ := x
        show (if y = n then jn n l m else 11) = 11
        split
        · exact this
        · rfl
theorem nn_at {l : List ZP} {m : Nat} (h : nn l m = true) (k : Nat) (hk : k < m) : (l.getD k none).isSome = true := by
  induction m with
  | zero => omega
  | succ m ih =>
    simp only [nn, Bool.and_eq_true] at h
    by_cases q : k = m
    · subst q; exact h.2
    · exact ih h.1 (by omega)
end Go.Proofs.YtfhfdpapppgfpaaGreatDoor
