/-
  The walk of the statement RatTurns.
-/
import Derived.Test.YtnhopmoboahlgaaDoorVi
namespace Go.Proofs.YtnhopmoboahlgaaDoor
open Go.RowKit Go.Shelf
set_option linter.unusedVariables false
abbrev CallsT (f : FuncId) (an ad bn bd : Int) (t : Int × Int × Int) : Prop := ∀ w, Calls Tryd.prog f #[rv an ad, rv bn bd] w fun e w' => e = .returned (trip t) ∧ Below w.heap.size w w'
theorem addT_comm (an ad bn bd : Int) : addT an ad bn bd = addT bn bd an ad := by
  unfold addT
  rw [Bool.and_comm, Int.add_comm, Int.mul_comm ad bd]
theorem mulT_comm (an ad bn bd : Int) : mulT an ad bn bd = mulT bn bd an ad := by
  unfold mulT
  rw [Bool.and_comm, Int.mul_comm an bn, Int.mul_comm ad bd]
theorem and_true {a b : Bool} (h : (a && b) = true) : a = true ∧ b = true := by simpa using h
theorem add_back (an ad bn bd : Int) (ha : I64 an) (hb : I64 ad) (h : (addT an ad bn bd).2.2 = 0) :
    subT (addT an ad bn bd).1 (addT an ad bn bd).2.1 bn bd = (an, ad, 0) ∧ I64 (addT an ad bn bd).1 ∧ I64 (addT an ad bn bd).2.1 := by
  unfold addT at *
  split at h
  · rename_i r
    obtain ⟨ra, rb⟩ := and_true r
    rw [if_pos r]
    obtain ⟨d0, -⟩ := right_iff.1 ra
    obtain ⟨e0, -⟩ := right_iff.1 rb
    have q := Int.mul_pos d0 e0
    obtain ⟨rs, e, x0, x1, y1⟩ := can_ok q h
    obtain ⟨y0, -⟩ := right_iff.1 rs
    refine ⟨?_, ⟨x0, x1⟩, by omega, y1⟩
    generalize (canR (an * bd + bn * ad) (ad * bd)).1 = sn at *
    generalize (canR (an * bd + bn * ad) (ad * bd)).2.1 = sd at *
    unfold subT
    rw [rs, rb]
    refine can_right (Int.mul_pos y0 e0) ra ha.1 ha.2 hb.2 ?_
    have e1 : sn * ad * bd = an * sd * bd + bn * sd * ad := by
      have : sn * ad * bd = sn * (ad * bd) := by rw [Int.mul_assoc]
      rw [this, e, Int.add_mul]
      congr 1 <;> ac_rfl
    rw [Int.sub_mul]
    have e2 : sn * bd * ad = sn * ad * bd := by ac_rfl
    have e3 : an * (sd * bd) = an * sd * bd := by ac_rfl
    have e4 : bn * sd * ad = bn * sd * ad := rfl
    omega
  · cases h
theorem mul_back (an ad bn bd : Int) (ha : I64 an) (hb : I64 ad) (z : ¬ bn = 0) (h : (mulT an ad bn bd).2.2 = 0) :
    divT (mulT an ad bn bd).1 (mulT an ad bn bd).2.1 bn bd = (an, ad, 0) := by
  unfold mulT at *
  split at h
  · rename_i r
    obtain ⟨ra, rb⟩ := and_true r
    rw [if_pos r]
    obtain ⟨d0, -⟩ := right_iff.1 ra
    obtain ⟨e0, -⟩ := right_iff.1 rb
    have q := Int.mul_pos d0 e0
    obtain ⟨rs, e, x0, x1, y1⟩ := can_ok q h
    obtain ⟨y0, -⟩ := right_iff.1 rs
    generalize (canR (an * bn) (ad * bd)).1 = sn at *
    generalize (canR (an * bn) (ad * bd)).2.1 = sd at *
    unfold divT
    rw [rs, rb]
    have p : 0 < sz bn := by unfold sz; split <;> omega
    have e5 : divT sn sd bn bd = canR (sn * sgn bd (decide (bn < 0))) (sd * sz bn) := by simp [divT, rs, rb, z]
    simp only [Bool.and_self, if_true, if_neg z]
    refine can_right (Int.mul_pos y0 p) ra ha.1 ha.2 hb.2 ?_
    have e1 : an * (sd * bn) = sn * bd * ad := by
      have : an * (sd * bn) = an * bn * sd := by ac_rfl
      rw [this, ← e]
      ac_rfl
    unfold sz sgn
    by_cases c : bn < 0
    · simp only [c, decide_true, if_true]
      rw [Int.mul_neg, Int.mul_neg, Int.mul_neg, Int.neg_mul, e1]
    · simp only [c, decide_false, if_false, Bool.false_eq_true]
      exact e1
  · cases h
theorem mul_i64 (an ad bn bd : Int) (h : (mulT an ad bn bd).2.2 = 0) : I64 (mulT an ad bn bd).1 ∧ I64 (mulT an ad bn bd).2.1 := by
  unfold mulT at *
  split at h
  · rename_i r
    obtain ⟨ra, rb⟩ := and_true r
    rw [if_pos r]
    obtain ⟨d0, -⟩ := right_iff.1 ra
    obtain ⟨e0, -⟩ := right_iff.1 rb
    obtain ⟨rs, e, x0, x1, y1⟩ := can_ok (Int.mul_pos d0 e0) h
    obtain ⟨y0, -⟩ := right_iff.1 rs
    exact ⟨⟨x0, x1⟩, by omega, y1⟩
  · cases h
end Go.Proofs.YtnhopmoboahlgaaDoor
