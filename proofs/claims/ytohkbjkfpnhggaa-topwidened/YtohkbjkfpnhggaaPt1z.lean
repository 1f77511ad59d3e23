/-
  Fractions against bounds: by whole parts and rests, and by one division of whole numbers.
-/
import Derived.Test.YtohkbjkfpnhggaaZu
import Derived.Test.YtohkbjkfpnhggaaZf
namespace Go.Proofs.Ytohkbjkfpnhggaa
open Go.RowKit
set_option linter.unusedVariables false
--BEGIN
/-- A less b against a number, whole parts first. -/
def gapV (an ad bn bd n : Int) : Int := if an / ad - bn / bd < n then -1 else if n < an / ad - bn / bd then 1 else cmpV (an % ad) ad (bn % bd) bd
def keepB (b an ad bn bd : Int) : Bool := !finB b || (decide (gapV an ad bn bd (valV b) < 0) || (decide (gapV an ad bn bd (valV b) = 0) && valR b))
theorem gap_split (an ad bn bd n : Int) : an * bd - bn * ad - n * (ad * bd) = (an / ad - bn / bd - n) * (ad * bd) + (an % ad * bd - bn % bd * ad) := by
  have e1 : an * bd = (an / ad * ad + an % ad) * bd := by rw [Int.mul_comm (an / ad) ad, Int.mul_ediv_add_emod]
  have e2 : bn * ad = (bn / bd * bd + bn % bd) * ad := by rw [Int.mul_comm (bn / bd) bd, Int.mul_ediv_add_emod]
  rw [e1, e2]
  generalize an / ad = x
  generalize bn / bd = y
  generalize an % ad = u
  generalize bn % bd = v
  simp only [Int.add_mul, Int.sub_mul]
  rw [show x * ad * bd = x * (ad * bd) from Int.mul_assoc _ _ _, show y * bd * ad = y * (ad * bd) by rw [Int.mul_assoc, Int.mul_comm bd ad]]
  omega
theorem rest_bd (an ad bn bd : Int) (p : 0 < ad) (q : 0 < bd) : -(ad * bd) < an % ad * bd - bn % bd * ad ∧ an % ad * bd - bn % bd * ad < ad * bd := by
  have a0 := Int.emod_nonneg an (show ad ≠ 0 by omega)
  have a1 := Int.emod_lt_of_pos an p
  have b0 := Int.emod_nonneg bn (show bd ≠ 0 by omega)
  have b1 := Int.emod_lt_of_pos bn q
  generalize an % ad = u at *
  generalize bn % bd = v at *
  have h1 : u * bd < ad * bd := Int.mul_lt_mul_of_pos_right a1 q
  have h2 : v * ad < bd * ad := Int.mul_lt_mul_of_pos_right b1 p
  have h3 : 0 ≤ u * bd := Int.mul_nonneg a0 (by omega)
  have h4 : 0 ≤ v * ad := Int.mul_nonneg b0 (by omega)
  rw [Int.mul_comm bd ad] at h2
  omega
theorem gap_sign (an ad bn bd n : Int) (p : 0 < ad) (q : 0 < bd) : (gapV an ad bn bd n < 0 ↔ an * bd - bn * ad < n * (ad * bd)) ∧ (gapV an ad bn bd n = 0 ↔ an * bd - bn * ad = n * (ad * bd)) := by
  have s := gap_split an ad bn bd n
  have r := rest_bd an ad bn bd p q
  have pq : 0 < ad * bd := Int.mul_pos p q
  unfold gapV cmpV
  generalize an / ad = x at *
  generalize bn / bd = y at *
  generalize an % ad * bd = u at *
  generalize bn % bd * ad = v at *
  generalize an * bd - bn * ad = D at *
  generalize n * (ad * bd) = E at *
  by_cases c1 : x - y < n
  · have : (x - y - n) * (ad * bd) ≤ -1 * (ad * bd) := Int.mul_le_mul_of_nonneg_right (by omega) (by omega)
    rw [if_pos c1]
    constructor <;> constructor <;> intro h <;> omega
  · rw [if_neg c1]
    by_cases c2 : n < x - y
    · have : 1 * (ad * bd) ≤ (x - y - n) * (ad * bd) := Int.mul_le_mul_of_nonneg_right (by omega) (by omega)
      rw [if_pos c2]
      constructor <;> constructor <;> intro h <;> omega
    · rw [if_neg c2]
      have z : x - y - n = 0 := by omega
      rw [z, Int.zero_mul] at s
      split
      · constructor <;> constructor <;> intro h <;> omega
      · split <;> (constructor <;> constructor <;> intro h <;> omega)
/-- The program's test is the exact one. -/
theorem keepB_holds (b an ad bn bd : Int) (p : 0 < ad) (q : 0 < bd) (hb : rightB b = true) : keepB b an ad bn bd = holdsB b (an * bd - bn * ad) (ad * bd) := by
  obtain ⟨g1, g2⟩ := gap_sign an ad bn bd (valV b) p q
  have pq : 1 ≤ ad * bd := Int.mul_pos p q
  unfold keepB holdsB
  by_cases f : finB b = true
  · have e : ¬ b = 2147483647 := by
      simp only [finB, decide_eq_true_eq] at f
      omega
    simp only [f, e, Bool.not_true, Bool.false_or, decide_false, Bool.true_and, decide_eq_true pq]
    generalize gapV an ad bn bd (valV b) = G at *
    generalize valV b * (ad * bd) = E at *
    generalize an * bd - bn * ad = D at *
    cases valR b
    · simp [g1]
    · simp only [Bool.and_true, if_true]
      rw [Bool.eq_iff_iff]
      simp only [Bool.or_eq_true, decide_eq_true_eq]
      omega
  · have f' : finB b = false := by simpa using f
    have e : b = 2147483647 := by
      simp only [finB, rightB, decide_eq_true_eq, decide_eq_false_iff_not] at *
      omega
    rw [f', e]
    rfl
/-- The same difference in other parts. -/
theorem holdsB_scale {b D G X g : Int} (hG : 0 < G) (hg : 0 < g) (e : D * g = X * G) : holdsB b D G = holdsB b X g := by
  unfold holdsB
  have h1 : decide (1 ≤ G) = true := decide_eq_true (by omega)
  have h2 : decide (1 ≤ g) = true := decide_eq_true (by omega)
  rw [h1, h2]
  have le : ∀ V : Int, D ≤ V * G ↔ X ≤ V * g := fun V => by
    have a : V * G * g = V * g * G := by rw [Int.mul_assoc, Int.mul_comm G g, Int.mul_assoc]
    constructor
    · intro h
      have := Int.mul_le_mul_of_nonneg_right h (show 0 ≤ g by omega)
      rw [e, a] at this
      exact Int.le_of_mul_le_mul_right this hG
    · intro h
      have := Int.mul_le_mul_of_nonneg_right h (show 0 ≤ G by omega)
      rw [← e, ← a] at this
      exact Int.le_of_mul_le_mul_right this hg
  have lt : ∀ V : Int, D < V * G ↔ X < V * g := fun V => by
    have a : V * G * g = V * g * G := by rw [Int.mul_assoc, Int.mul_comm G g, Int.mul_assoc]
    constructor
    · intro h
      have := Int.mul_lt_mul_of_pos_right h hg
      rw [e, a] at this
      exact Int.lt_of_mul_lt_mul_right this (by omega)
    · intro h
      have := Int.mul_lt_mul_of_pos_right h hG
      rw [← e, ← a] at this
      exact Int.lt_of_mul_lt_mul_right this (by omega)
  rw [show decide (D ≤ valV b * G) = decide (X ≤ valV b * g) from by rw [decide_eq_decide]; exact le _, show decide (D < valV b * G) = decide (X < valV b * g) from by rw [decide_eq_decide]; exact lt _]
--END
end Go.Proofs.Ytohkbjkfpnhggaa
