/-
  A text's pieces between blanks.
-/
import Derived.Lib.Split
import Derived.Lib.Join
import Derived.Lib.IndexBytes
import Derived.Test.YteifpplemohdcaaGreatDoorProg
namespace Go.Proofs.YteifpplemohdcaaGreatDoor

set_option linter.unusedVariables false
/-- A text's pieces between blanks. -/
def pcs : List UInt8 → List (List UInt8)
  | [] => [[]]
  | c :: r => if c = 32 then [] :: pcs r else match pcs r with | [] => [[c]] | p :: ps => (c :: p) :: ps
theorem pcs_ne (l : List UInt8) : pcs l ≠ [] := by
  cases l with
  | nil => simp [pcs]
  | cons c r =>
    unfold pcs
    split
    · simp
    · split <;> simp
theorem pcs_none {a : List UInt8} (h : ∀ c ∈ a, c ≠ 32) : pcs a = [a] := by
  induction a with
  | nil => rfl
  | cons c r ih =>
    unfold pcs
    rw [if_neg (h c (by simp)), ih (fun x hx => h x (by simp [hx]))]
theorem pcs_one {a r : List UInt8} (h : ∀ c ∈ a, c ≠ 32) : pcs (a ++ 32 :: r) = a :: pcs r := by
  induction a with
  | nil => simp [pcs]
  | cons c a ih =>
    rw [List.cons_append, pcs, if_neg (h c (by simp)), ih (fun x hx => h x (by simp [hx]))]
theorem pcs_join (l : List UInt8) : Lib.join (pcs l) [32] = l := by
  induction l with
  | nil => rfl
  | cons c r ih =>
    unfold pcs
    cases e : pcs r with
    | nil => exact absurd e (pcs_ne r)
    | cons p ps =>
      rw [e, Lib.join_cons] at ih
      split
      · rename_i hc
        subst hc
        rw [Lib.join_cons]
        show Lib.joinTail [32] (p :: ps) = _
        rw [← ih]
        simp [Lib.joinTail]
      · rw [Lib.join_cons, List.cons_append, ih]
theorem pcs_len (l : List UInt8) : (pcs l).length ≤ l.length + 1 := by
  induction l with
  | nil => simp [pcs]
  | cons c r ih =>
    unfold pcs
    split
    · simpa using ih
    · split
      · simp
      · rename_i p ps e
        rw [e] at ih
        simp at ih ⊢
        omega
/-- Where the first blank is. -/
theorem index_blank (l : List UInt8) : (Lib.index l [32] = -1 ∧ pcs l = [l]) ∨ ∃ i : Nat, Lib.index l [32] = i ∧ i < l.length ∧ pcs l = l.take i :: pcs (l.drop (i + 1)) := by
  rw [Lib.index_one]
  induction l with
  | nil => exact .inl ⟨rfl, rfl⟩
  | cons c l ih =>
    by_cases h : c = 32
    · subst h
      exact .inr ⟨0, by simp [Lib.indexByte], by simp, by simp [pcs]⟩
    · rcases ih with ⟨h1, h2⟩ | ⟨i, h1, h2, h3⟩
      · exact .inl ⟨by simp [Lib.indexByte, h, h1], by rw [pcs, if_neg h, h2]⟩
      · refine .inr ⟨i + 1, ?_, by simp; omega, by rw [pcs, if_neg h, h3]; simp⟩
        have : ¬ ((i : Int) = -1) := by omega
        simp [Lib.indexByte, h, h1, this]
/-- Cut at most so many times: all pieces, or there are more. -/
theorem split_pcs : ∀ (k : Nat) (l : List UInt8), Lib.splitK [32] 0 k l = pcs l ∨ ((Lib.splitK [32] 0 k l).length = k + 1 ∧ k + 1 < (pcs l).length)
  | 0, l => by
    rcases index_blank l with ⟨_, h⟩ | ⟨i, _, _, h⟩
    · exact .inl (by rw [h]; rfl)
    · refine .inr ⟨rfl, ?_⟩
      rw [h]
      have := List.length_pos_iff.2 (pcs_ne (l.drop (i + 1)))
      simp
      omega
  | k + 1, l => by
    rcases index_blank l with ⟨h1, h⟩ | ⟨i, h1, h2, h⟩
    · exact .inl (by rw [h, Lib.splitK, h1]; rfl)
    · have e : Lib.splitK [32] 0 (k + 1) l = l.take i :: Lib.splitK [32] 0 k (l.drop (i + 1)) := by
        have hm : ¬ (Lib.index l [32] == -1) = true := fun e => by have := beq_iff_eq.1 e; omega
        have e : (Lib.index l [32]).toNat = i := by omega
        rw [Lib.splitK, if_neg hm, e]
        rfl
      rw [e, h]
      rcases split_pcs k (l.drop (i + 1)) with g | ⟨g1, g2⟩
      · exact .inl (by rw [g])
      · exact .inr ⟨by simp [g1], by simp; omega⟩
theorem pcs_texts : ∀ {ts : List (List UInt8)}, ts ≠ [] → (∀ t ∈ ts, ∀ c ∈ t, c ≠ 32) → pcs (Lib.join ts [32]) = ts
  | [], h, _ => absurd rfl h
  | [t], _, h => by
    rw [Lib.join_cons]
    simp only [Lib.joinTail, List.map_nil, List.flatten_nil, List.append_nil]
    exact pcs_none (h t (by simp))
  | t :: u :: r, _, h => by
    have ih := pcs_texts (ts := u :: r) (by simp) (fun x hx => h x (by simp at hx ⊢; exact .inr hx))
    rw [Lib.join_cons]
    rw [Lib.join_cons] at ih
    have e : t ++ Lib.joinTail [32] (u :: r) = t ++ 32 :: (u ++ Lib.joinTail [32] r) := by simp [Lib.joinTail]
    rw [e, pcs_one (h t (by simp)), ih]
end Go.Proofs.YteifpplemohdcaaGreatDoor
