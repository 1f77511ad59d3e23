/-
  The contracts of ops: zone once more, Up, Down, free, limit.
-/
import Derived.Test.YtnfkmpickmonoaaGreatQ17
namespace Go.Proofs.YtnfkmpickmonoaaGreat
open Go.RowKit
set_option linter.unusedVariables false
set_option maxRecDepth 100000
/-- What zone tells of a draft. -/
def OpsOut (w' : World) (B n : Nat) (e : Ending) (r : Mat) : Prop :=
  (allRight (rowsL n r (n + 1)) ((n + 1) * (n + 1)) = false ∧ e = errOf 7) ∨ (allRight (rowsL n r (n + 1)) ((n + 1) * (n + 1)) = true ∧ ZoneOut w' B n e (zoneR n (tgAll n (rowsL n r (n + 1)) ((n + 1) * (n + 1)) (startR n (n + 1) 0))))
def R32 (r : Mat) : Prop := ∀ i j, -2147483648 ≤ r i j ∧ r i j ≤ 2147483647
def C32 (c : Row) : Prop := ∀ k, -2147483648 ≤ c k ∧ c k ≤ 2147483647
theorem oR_32 {n K : Nat} {c : Row} (h : C32 c) : R32 (oR n c K) := fun i j => by
  unfold oR
  split
  · exact h _
  · omega
theorem R32.upd {r : Mat} (h : R32 r) {i j : Nat} {v : Int} (h0 : -2147483648 ≤ v) (h1 : v ≤ 2147483647) : R32 (upd r i j v) := fun a c => by
  unfold Go.Proofs.YtnfkmpickmonoaaGreat.upd
  split
  · exact ⟨h0, h1⟩
  · exact h a c
theorem OpsOut.form {w' : World} {B n : Nat} {e : Ending} {r : Mat} (h : OpsOut w' B n e r) : ∃ p k, e = .returned (.tuple #[.pointer p, .int .i64 k]) := by
  rcases h with ⟨-, rfl⟩ | ⟨-, h⟩
  · exact ⟨_, _, rfl⟩
  · cases ez : zoneR n (tgAll n (rowsL n r (n + 1)) ((n + 1) * (n + 1)) (startR n (n + 1) 0)) with
    | none => rw [ez] at h; exact ⟨_, _, h⟩
    | some c =>
      rw [ez] at h
      obtain ⟨b', -, h, -⟩ := h
      exact ⟨_, _, h⟩
theorem ozone_out (b n B : Nat) (r : Mat) (w : World) (h : n ≤ 8) (hD : ODraft w b n r) (hi : R32 r) (hB : B ≤ w.heap.size) :
    Calls Tryz.prog 87 #[.pointer (some ⟨b, 0, none⟩)] w fun e w' => ∃ p k, e = .returned (.tuple #[.pointer p, .int .i64 k]) ∧ Hid (OpsOut w' B n (.returned (.tuple #[.pointer p, .int .i64 k])) r) ∧ Hid (Below w.heap.size w w') := by
  refine (ozone_any b n r w h hD hi).mono ?_
  intro e w' ⟨hb, ho⟩
  have ho' : OpsOut w' B n e r := by
    rcases ho with h1 | ⟨h1, h2⟩
    · exact .inl h1
    · refine .inr ⟨h1, ?_⟩
      cases ez : zoneR n (tgAll n (rowsL n r (n + 1)) ((n + 1) * (n + 1)) (startR n (n + 1) 0)) with
      | none => rw [ez] at h2; exact h2
      | some c =>
        rw [ez] at h2
        obtain ⟨b', q, h3, h4⟩ := h2
        exact ⟨b', Nat.le_trans hB q, h3, h4⟩
  obtain ⟨p, k, rfl⟩ := ho'.form
  exact ⟨p, k, rfl, ho', hb⟩
end Go.Proofs.YtnfkmpickmonoaaGreat
