/-
  The contract of 'both' for every number and every row of bounds, and the walk of the statement DbmCells.
-/
import Derived.Test.YtbcfaepmhlanjaaEj
import Derived.OpenShut
namespace Go.Proofs.Ytbcfaepmhlanjaa
open Go.RowKit
set_option linter.unusedVariables false
set_option maxRecDepth 100000
/-- A slice that was handed in reads as these bounds. -/
def SliceAt (w : World) (v : Value) (l : List Int) : Prop := (∃ ad c, v = .slice ad 0 c ∧ l = []) ∨ (∃ b off cap, v = .slice (some ⟨b, off, none⟩) l.length cap ∧ ∀ j, j < l.length → w.cell? ⟨b, off + j, none⟩ = some (.int .i32 (l.getD j 0)))
/-- Cells that a zone can have. -/
def Made (n : Nat) (c : Row) : Prop := ∃ r : Mat, (∀ i, i ≤ n → r i i ≤ 1) ∧ zoneR n r = some c
def BothOut (w' : World) (B : Nat) (n : Int) (x : Ending) : Prop :=
  x = .returned (.tuple #[.pointer none, .pointer none, .bool true]) ∨
  ∃ (N : Nat) (c : Row) (b r : Nat), n = N ∧ N ≤ 8 ∧ x = .returned (.tuple #[.pointer (some ⟨b, 0, none⟩), .pointer (some ⟨r, 0, none⟩), .bool true]) ∧ B ≤ b ∧ ZoneAt w' b N c ∧ RZone w' B r N (listOf c ((N + 1) * (N + 1))) ∧ Made N c
theorem both_any (n : Int) (v : Value) (l : List Int) (w : World) (hS : SliceAt w v l) (hi : ∀ j, j < l.length → -2147483648 ≤ l.getD j 0 ∧ l.getD j 0 ≤ 2147483647) (hby : l.length ≤ 9223372036854775807) :
    Calls Try.prog 5 #[.int .i64 n, v] w fun x w' => BothOut w' w.heap.size n x ∧ Below w.heap.size w w' := by
  have err : ∀ e, (∀ w', Below w.heap.size w w' → Calls Try.prog 26 #[.int .i64 n, v] w' fun x w'' => x = errOf e ∧ Below w'.heap.size w' w'') → (∀ w', Below w.heap.size w w' → Calls Try.prog 27 #[.int .i64 n, v] w' fun x w'' => x = errOf e ∧ Below w'.heap.size w' w'') →
      Calls Try.prog 5 #[.int .i64 n, v] w fun x w' => BothOut w' w.heap.size n x ∧ Below w.heap.size w w' := fun e h1 h2 => (both_err n v e w h1 h2).mono fun x w' ⟨hx, hb⟩ => ⟨.inl hx, hb⟩
  have same : ∀ {f : Nat} {e : Int} (w' : World), Calls Try.prog f #[.int .i64 n, v] w' (fun x w'' => x = errOf e ∧ w'' = w') → Calls Try.prog f #[.int .i64 n, v] w' (fun x w'' => x = errOf e ∧ Below w'.heap.size w' w'') := fun w' h => h.mono fun x w'' ⟨hx, hw⟩ => ⟨hx, by rw [hw]; exact Below.refl _ _⟩
  by_cases hn : 0 ≤ n ∧ n ≤ 8
  · obtain ⟨N, rfl⟩ := Int.eq_ofNat_of_zero_le hn.1
    have N8 : N ≤ 8 := by omega
    have mp : 0 < (N + 1) * (N + 1) := Nat.mul_pos (by omega) (by omega)
    by_cases hl : l.length = (N + 1) * (N + 1)
    · rcases hS with ⟨ad, c, rfl, rfl⟩ | ⟨cb, off, cap, rfl, hc⟩
      · exfalso
        simp at hl
      · have hcb : cb < w.heap.size := World.block_lt_of_cell? _ _ (hc 0 (by omega))
        have row : ∀ w', Below w.heap.size w w' → RowAt w' cb off l := fun w' hb j hj => (hb.cell (p := ⟨cb, off + j, none⟩) hcb).trans (hc j hj)
        have P := fun w' hb => of_main N cb off cap l w' N8 hl (row w' hb) hi
        have R := fun w' hb => rof_main N cb off cap l w' N8 hl (row w' hb) hi
        cases ha : allRight l l.length
        · refine err 7 (fun w' hb => (P w' hb).mono fun x w'' h => ?_) (fun w' hb => (R w' hb).mono fun x w'' h => ?_)
          · obtain ⟨h1, ⟨-, h2⟩ | ⟨h2, -⟩⟩ := h
            · exact ⟨h2, h1⟩
            · rw [ha] at h2; cases h2
          · obtain ⟨h1, ⟨-, h2⟩ | ⟨h2, -⟩⟩ := h
            · exact ⟨h2, h1⟩
            · rw [ha] at h2; cases h2
        · have os := of_same N l hl (fun j hj => (hi j (by omega)).2)
          cases hz : zoneR N (tgAll N l l.length (startR N (N + 1) 0)) with
          | none =>
            rw [hz] at os
            refine err 10 (fun w' hb => (P w' hb).mono fun x w'' h => ?_) (fun w' hb => (R w' hb).mono fun x w'' h => ?_)
            · obtain ⟨h1, ⟨h2, -⟩ | ⟨-, h2⟩⟩ := h
              · rw [ha] at h2; cases h2
              · rw [hz] at h2; exact ⟨h2, h1⟩
            · obtain ⟨h1, ⟨h2, -⟩ | ⟨-, h2⟩⟩ := h
              · rw [ha] at h2; cases h2
              · rw [os] at h2; exact ⟨h2, h1⟩
          | some c =>
            rw [hz] at os
            refine (both_zone N _ _ c w N8 rfl (fun w' hb => (P w' hb).mono fun x w'' h => ?_) (fun w' hb => (R w' hb).mono fun x w'' h => ?_)).mono ?_
            · obtain ⟨h1, ⟨h2, -⟩ | ⟨-, h2⟩⟩ := h
              · rw [ha] at h2; cases h2
              · rw [hz] at h2; exact ⟨h1, h2⟩
            · obtain ⟨h1, ⟨h2, -⟩ | ⟨-, h2⟩⟩ := h
              · rw [ha] at h2; cases h2
              · rw [os] at h2; exact ⟨h1, h2⟩
            · rintro x w' ⟨⟨b, r, rfl, lb, h1, h2⟩, hb⟩
              refine ⟨.inr ⟨N, c, b, r, rfl, N8, rfl, lb, h1, h2, _, fun i h => ?_, hz⟩, hb⟩
              rw [hl, ← start_both N l (fun j hj => (hi j (by omega)).2), clipAll_at, if_pos (.inl ⟨rfl, by omega⟩)]
              omega
    · obtain ⟨ad, cap, rfl⟩ : ∃ ad cap, v = .slice ad l.length cap := by
        rcases hS with ⟨ad, c, rfl, rfl⟩ | ⟨cb, off, cap, rfl, hc⟩
        · exact ⟨ad, c, rfl⟩
        · exact ⟨_, cap, rfl⟩
      exact err 6 (fun w' hb => of_long N l.length cap ad w' N8 hl hby) (fun w' hb => same w' (rof_long N l.length cap _ ad w' N8 rfl hl))
  · exact err 12 (fun w' hb => same w' (of_clock n v w' hn)) (fun w' hb => same w' (rof_clock n v w' hn))
end Go.Proofs.Ytbcfaepmhlanjaa
