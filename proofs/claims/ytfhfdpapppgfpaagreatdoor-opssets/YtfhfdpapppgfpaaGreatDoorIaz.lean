/-
  The constants of extra: mayBe, counted, silent.
-/
import Derived.Test.YtfhfdpapppgfpaaGreatDoorZk
import Derived.Test.YtfhfdpapppgfpaaGreatDoorZi
import Derived.Laws.OwnMore
namespace Go.Proofs.YtfhfdpapppgfpaaGreatDoor
open Go.RowKit
set_option linter.unusedVariables false
set_option maxRecDepth 100000
def cstB (x : Int) : Bool := decide (-1 ≤ x ∧ x ≤ 1048576)
def cstA (l : List Int) : Nat → Bool
  | 0 => true
  | k + 1 => cstA l k && cstB (l.getD k 0)
theorem cstA_false {l : List Int} : ∀ {k : Nat} (m : Nat), k ≤ m → cstA l k = false → cstA l m = false := by
  intro k m h e
  induction m with
  | zero => obtain rfl : k = 0 := by omega
            exact e
  | succ m ih =>
    by_cases q : k = m + 1
    · subst q; exact e
    · simp [cstA, ih (by omega)]
theorem cstA_at {l : List Int} {m : Nat} (h : cstA l m = true) (k : Nat) (hk : k < m) : -1 ≤ l.getD k 0 ∧ l.getD k 0 ≤ 1048576 := by
  induction m with
  | zero => omega
  | succ m ih =>
    simp only [cstA, Bool.and_eq_true] at h
    by_cases q : k = m
    · subst q
      simpa [cstB] using h.2
    · exact ih h.1 (by omega)
/-- Why numbers can't be constants of n clocks. -/
def mayE (n : Nat) (l : List Int) : Int := if l.length = n then (if cstA l l.length = true then 0 else 13) else 6
theorem IntsAt.at {w : World} {ad : Option Addr} {q cap : Nat} {l : List Int} (h : IntsAt w (.slice ad q cap) l) (hl : l.length = q) (k : Nat) (hk : k < q) : ∃ cb off, ad = some ⟨cb, off, none⟩ ∧ w.cell? ⟨cb, off + k, none⟩ = some (.int .i64 (l.getD k 0)) := by
  rcases h with ⟨ad', c', e, e'⟩ | ⟨cb, off, cap', e, hcell⟩
  · subst e'; simp at hl; omega
  · injection e with e1 e2 e3
    exact ⟨cb, off, e1, hcell k (by omega)⟩
/-- The constants as cells are held against them, that of the number 0 first. -/
def cstL (l : List Int) (K : Nat) : List Int := 0 :: (l.take K).map (fun c => max c 0)
def cstN (l : List Int) (i : Nat) : Int := if i = 0 then 0 else max (l.getD (i - 1) 0) 0
theorem cstL_next (l : List Int) (K : Nat) (hK : K < l.length) : cstL l (K + 1) = cstL l K ++ [max (l.getD K 0) 0] := by
  unfold cstL
  have e : l.getD K 0 = l[K] := by simp [List.getD, hK]
  rw [List.take_add_one, List.map_append, List.getElem?_eq_getElem hK, e]
  rfl
theorem cstL_len (l : List Int) (K : Nat) (hK : K ≤ l.length) : (cstL l K).length = K + 1 := by simp [cstL]; omega
theorem cstL_get (l : List Int) (i : Nat) (hi : i < l.length + 1) : (cstL l l.length)[i]? = some (cstN l i) := by
  unfold cstL cstN
  cases i with
  | zero => rfl
  | succ i =>
    have : i < l.length := by omega
    simp [List.getD, this]
theorem info_int : (Tryz.prog.info? 3).map (fun i => (i.zero, i.size, i.bytes)) = some (some (.int .i64 0), 1, 8) := by kernel_rfl
/-- The clocks that are held against nothing. -/
def silL (lo up : List Int) : Nat → List Int
  | 0 => []
  | K + 1 => if lo.getD K 0 = -1 ∧ up.getD K 0 = -1 then silL lo up K ++ [(K : Int) + 1] else silL lo up K
theorem silL_len (lo up : List Int) : ∀ K, (silL lo up K).length ≤ K
  | 0 => Nat.le_refl _
  | K + 1 => by
    have := silL_len lo up K
    unfold silL
    split
    · rw [List.length_append]; simp; omega
    · omega
theorem silL_mem {lo up : List Int} {x : Int} : ∀ K, x ∈ silL lo up K ↔ ∃ k, k < K ∧ x = (k : Int) + 1 ∧ lo.getD k 0 = -1 ∧ up.getD k 0 = -1
  | 0 => ⟨fun h => (by cases h), fun ⟨k, h, _⟩ => (by omega)⟩
  | K + 1 => by
    have ih := silL_mem (lo := lo) (up := up) (x := x) K
    unfold silL
    split
    · rename_i c
      rw [List.mem_append, ih]
      constructor
      · rintro (⟨k, h1, h2⟩ | h)
        · exact ⟨k, by omega, h2⟩
        · exact ⟨K, by omega, by simpa using h, c⟩
      · rintro ⟨k, h1, h2, h3⟩
        by_cases e : k = K
        · subst e; exact .inr (by simpa using h2)
        · exact .inl ⟨k, by omega, h2, h3⟩
    · rename_i c
      rw [ih]
      constructor
      · rintro ⟨k, h1, h2⟩; exact ⟨k, by omega, h2⟩
      · rintro ⟨k, h1, h2, h3⟩
        by_cases e : k = K
        · subst e; exact absurd h3 c
        · exact ⟨k, by omega, h2, h3⟩
end Go.Proofs.YtfhfdpapppgfpaaGreatDoor
