/-
  The document's least valuation: numbers are raised till all bounds are kept; they are the least ones.
-/
import Derived.Test.YtondgencdcimjaaGreatPl0z
import Derived.Test.YtondgencdcimjaaGreatZx
namespace Go.Proofs.YtondgencdcimjaaGreat
open Go.RowKit Go.Shelf
set_option linter.unusedVariables false
set_option maxRecDepth 100000
/-- How much is still to be raised. -/
def mS (V x : Val) : Nat → Nat
  | 0 => 0
  | k + 1 => mS V x k + (V k - x k).toNat
theorem mS_le {V x y : Val} : ∀ k, (∀ a, a < k → x a ≤ y a) → mS V y k ≤ mS V x k
  | 0, _ => Nat.le_refl _
  | k + 1, h => by
    have := mS_le (V := V) k (fun a ha => h a (by omega))
    have := h k (by omega)
    simp only [mS]
    omega
theorem mS_lt {V x y : Val} {j : Nat} : ∀ k, j < k → (∀ a, a < k → x a ≤ y a) → x j < y j → y j ≤ V j → mS V y k < mS V x k
  | 0, hj, _, _, _ => by omega
  | k + 1, hj, h, h1, h2 => by
    simp only [mS]
    by_cases e : j = k
    · subst e
      have := mS_le (V := V) j (fun a ha => h a (by omega))
      omega
    · have := mS_lt (V := V) k (by omega) (fun a ha => h a (by omega)) h1 h2
      have := h k (by omega)
      omega
theorem mS_same {V x y : Val} : ∀ k, (∀ a, a < k → x a = y a) → mS V x k = mS V y k
  | 0, _ => rfl
  | k + 1, h => by simp only [mS]; rw [mS_same k (fun a ha => h a (by omega)), h k (by omega)]
def cellI (W : World) (X : Nat) (a : Nat) : Int := match W.cell? ⟨X, a, none⟩ with | some (.int _ z) => z | _ => 0
theorem cellI_at {W : World} {X N a : Nat} {x : Val} (h : UnitsAt W X N x) (ha : a < N) : cellI W X a = x a := by
  unfold cellI
  rw [h.cell a ha]
theorem mS_world {W : World} {X N : Nat} {V x : Val} (h : UnitsAt W X N x) : mS V (cellI W X) N = mS V x N := mS_same N (fun a ha => cellI_at h ha)
/-- Numbers on their way up. -/
def Low (n : Nat) (V x : Val) : Prop := ∀ a, a ≤ n → 0 ≤ x a ∧ x a ≤ V a
/-- The bounds that have been looked at are kept. -/
def Chk (n : Nat) (c : Row) (x : Val) (I J : Nat) : Prop := ∀ i j, i ≤ n → j ≤ n → (i < I ∨ (i = I ∧ j < J)) → ¬ pW n c i j = opn → x i - x j ≤ gW (pW n c i j) ((n : Int) + 1)
structure Up (n : Nat) (c : Row) (V x0 x : Val) (mv : Bool) (I J : Nat) : Prop where
  low : Low n V x
  no : mv = false → x = x0 ∧ Chk n c x I J
  yes : mv = true → mS V x (n + 1) < mS V x0 (n + 1)
theorem Up.start {n : Nat} {c : Row} {V x0 : Val} (h : Low n V x0) : Up n c V x0 x0 false 0 0 := ⟨h, fun _ => ⟨rfl, fun i j _ _ hh => by omega⟩, fun h => by cases h⟩
theorem Up.row {n : Nat} {c : Row} {V x0 x : Val} {mv : Bool} {I J : Nat} (h : Up n c V x0 x mv I J) (hJ : n + 1 ≤ J) : Up n c V x0 x mv (I + 1) 0 :=
  ⟨h.low, fun e => ⟨(h.no e).1, fun i j hi hj hh f => (h.no e).2 i j hi hj (by omega) f⟩, h.yes⟩
theorem Up.keep {n : Nat} {c : Row} {V x0 x : Val} {mv : Bool} {I J : Nat} (h : Up n c V x0 x mv I J) (hk : ¬ pW n c I J = opn → x I - x J ≤ gW (pW n c I J) ((n : Int) + 1)) : Up n c V x0 x mv I (J + 1) :=
  ⟨h.low, fun e => ⟨(h.no e).1, fun i j hi hj hh f => by
    by_cases e' : i = I ∧ j = J
    · obtain ⟨rfl, rfl⟩ := e'
      exact hk f
    · exact (h.no e).2 i j hi hj (by omega) f⟩, h.yes⟩
theorem Up.raise {n : Nat} {c : Row} {V x0 x : Val} {mv : Bool} {I J : Nat} (hB : Best n c V) (h : Up n c V x0 x mv I J) (hI : I ≤ n) (hJ : J ≤ n) (f : ¬ pW n c I J = opn) (lt : gW (pW n c I J) ((n : Int) + 1) < x I - x J) : Up n c V x0 (updV x J (x I - gW (pW n c I J) ((n : Int) + 1))) true I (J + 1) := by
  have s := hB.sol I J hI hJ f
  have a := h.low I hI
  have b := h.low J hJ
  have up : ∀ a, a < n + 1 → x a ≤ updV x J (x I - gW (pW n c I J) ((n : Int) + 1)) a := fun a _ => by
    unfold updV
    split
    · rename_i e; subst e; omega
    · exact Int.le_refl _
  have lt2 : mS V (updV x J (x I - gW (pW n c I J) ((n : Int) + 1))) (n + 1) < mS V x (n + 1) := by
    refine mS_lt (j := J) (n + 1) (by omega) up ?_ ?_
    · unfold updV; rw [if_pos rfl]; omega
    · unfold updV; rw [if_pos rfl]; omega
  refine ⟨fun a ha => ?_, fun e => (by cases e), fun _ => ?_⟩
  · unfold updV
    split
    · rename_i e; subst e; omega
    · exact h.low a ha
  · cases mv with
    | true => have := h.yes rfl; omega
    | false => rw [← (h.no rfl).1]; exact lt2
/-- What is kept by all, and below the least, is the least. -/
theorem least_same {n : Nat} {c : Row} {V x : Val} (hB : Best n c V) (h : Low n V x) (hs : Chk n c x (n + 1) 0) : ∀ a, a ≤ n → x a = V a := fun a ha => by
  have := hB.least x (fun i j hi hj f => hs i j hi hj (by omega) f) (fun a ha => (h a ha).1) a ha
  have := (h a ha).2
  omega
end Go.Proofs.YtondgencdcimjaaGreat
