/-
  The contracts of bound.Holds and bound.Not: for every bound and fraction they return what the plain functions below say; nothing that was there turns.
-/
import Derived.Test.YtmnckhchpbdfjaaBb
import Derived.Deep.QuietTactic
import Derived.BigQuiet
namespace Go.Proofs.Ytmnckhchpbdfjaa
open Go.RowKit
set_option linter.unusedVariables false

/-- Does num / den keep the bound? (Inf: always; else not, if the bound is not right or den is below 1.) -/
def holdsB (b n d : Int) : Bool := decide (b = 2147483647) || (finB b && decide (1 ≤ d) && (if valR b then decide (n ≤ valV b * d) else decide (n < valV b * d)))

theorem floor_neg (n d : Int) (hd : 1 ≤ d) (h : n.tmod d < 0) : n / d = n.tdiv d - 1 ∧ n % d ≠ 0 := by
  have h1 := Int.mul_tdiv_add_tmod n d
  have h2 : -d < n.tmod d := Int.lt_tmod_of_pos n (by omega)
  have h3 := (Int.ediv_emod_unique (a := n) (b := d) (r := n.tmod d + d) (q := n.tdiv d - 1) (by omega)).2 ⟨by rw [Int.mul_sub]; omega, by omega, by omega⟩
  exact ⟨h3.1, by rw [h3.2]; omega⟩
theorem floor_pos (n d : Int) (hd : 1 ≤ d) (h : 0 ≤ n.tmod d) : n / d = n.tdiv d ∧ n % d = n.tmod d := by
  have h1 := Int.mul_tdiv_add_tmod n d
  have h2 : n.tmod d < d := Int.tmod_lt_of_pos n (by omega)
  exact (Int.ediv_emod_unique (a := n) (b := d) (r := n.tmod d) (q := n.tdiv d) (by omega)).2 ⟨by omega, h, h2⟩
theorem lt_floor (v n d : Int) (hd : 1 ≤ d) : n < v * d ↔ n / d < v := (Int.ediv_lt_iff_lt_mul (by omega)).symm
theorem le_floor (v n d : Int) (hd : 1 ≤ d) : n ≤ v * d ↔ (n / d < v ∨ (n / d = v ∧ n % d = 0)) := by
  have h1 := Int.mul_ediv_add_emod n d
  have h2 := Int.emod_nonneg n (show d ≠ 0 by omega)
  constructor
  · intro h
    by_cases e : n = v * d
    · right
      subst e
      exact ⟨Int.mul_ediv_cancel v (by omega), Int.mul_emod_left v d⟩
    · exact .inl ((lt_floor v n d hd).1 (by omega))
  · rintro (h | ⟨h, g⟩)
    · have := (lt_floor v n d hd).2 h
      omega
    · rw [h, g, Int.mul_comm] at h1
      omega

theorem below_drawn (w : World) (n : Nat) : Below w.heap.size w (w.drewN n) := below_drewN (Below.refl _ _) n

def notB (b : Int) : Int := if finB b then ofB (-(valV b)) (!valR b) else 0
def notE (b : Int) : Int := if rightB b then (if finB b then ofE (-(valV b)) else 4) else 7
end Go.Proofs.Ytmnckhchpbdfjaa
