/-
  What the statement TopNumbers leans on: fractions that keep bounds, and their sum.
-/
import Derived.Test.YtacgkbmhklfcaabRl
import Derived.Test.YtacgkbmhklfcaabBp
namespace Go.Proofs.Ytacgkbmhklfcaab
open Go.RowKit Go.Shelf
set_option linter.unusedVariables false

theorem holdsB_scale (b n d k : Int) (f : finB b = true) (hd : 1 ≤ d) (hk : 0 < k) : holdsB b (n * k) (d * k) = holdsB b n d := by
  have h1 : 1 ≤ d * k := Int.mul_pos (by omega) hk
  rw [holdsB_fin _ _ _ f h1, holdsB_fin _ _ _ f hd]
  have e : valV b * (d * k) = valV b * d * k := by rw [Int.mul_assoc]
  rw [e]
  split
  · exact decide_eq_decide.2 ⟨fun h => Int.le_of_mul_le_mul_right h hk, fun h => Int.mul_le_mul_of_nonneg_right h (Int.le_of_lt hk)⟩
  · exact decide_eq_decide.2 ⟨fun h => Int.lt_of_mul_lt_mul_right h (Int.le_of_lt hk), fun h => Int.mul_lt_mul_of_pos_right h hk⟩
theorem sgn_sz (n : Int) : sgn (sz n) (decide (n < 0)) = n := by
  unfold sgn sz
  by_cases h : n < 0 <;> simp [h]
/-- The sum's own terms keep the bounds' sum. -/
theorem sum_holds (x y z an ad bn bd : Int) (fx : finB x = true) (fy : finB y = true) (hz : sumE [x, y] = 0) (ez : z = sumB [x, y]) (d0 : 0 < ad) (e0 : 0 < bd) (hx : holdsB x an ad = true) (hy : holdsB y bn bd = true)
    (hc : canHold (sNum (sz an) ad (decide (an < 0)) (sz bn) bd (decide (bn < 0))) (sDen (sz an) ad (decide (an < 0)) (sz bn) bd (decide (bn < 0))) (sS (sz an) ad (decide (an < 0)) (sz bn) bd (decide (bn < 0))) = true) :
    holdsB z (heldN (sNum (sz an) ad (decide (an < 0)) (sz bn) bd (decide (bn < 0))) (sDen (sz an) ad (decide (an < 0)) (sz bn) bd (decide (bn < 0))) (sS (sz an) ad (decide (an < 0)) (sz bn) bd (decide (bn < 0))))
      (heldD (sNum (sz an) ad (decide (an < 0)) (sz bn) bd (decide (bn < 0))) (sDen (sz an) ad (decide (an < 0)) (sz bn) bd (decide (bn < 0))) (sS (sz an) ad (decide (an < 0)) (sz bn) bd (decide (bn < 0)))) = true := by
  obtain ⟨H0, hn, hd, hL, py, px, pd⟩ := sum_law (sz an) ad (sz bn) bd (decide (an < 0)) (decide (bn < 0)) d0 e0
  rw [sgn_sz, sgn_sz] at hn
  have e1 : heldN (sNum (sz an) ad (decide (an < 0)) (sz bn) bd (decide (bn < 0))) (sDen (sz an) ad (decide (an < 0)) (sz bn) bd (decide (bn < 0))) (sS (sz an) ad (decide (an < 0)) (sz bn) bd (decide (bn < 0))) = sgn (sNum (sz an) ad (decide (an < 0)) (sz bn) bd (decide (bn < 0))) (sS (sz an) ad (decide (an < 0)) (sz bn) bd (decide (bn < 0))) := by
    simp [heldN, hc, sgn]
  have e2 : heldD (sNum (sz an) ad (decide (an < 0)) (sz bn) bd (decide (bn < 0))) (sDen (sz an) ad (decide (an < 0)) (sz bn) bd (decide (bn < 0))) (sS (sz an) ad (decide (an < 0)) (sz bn) bd (decide (bn < 0))) = sDen (sz an) ad (decide (an < 0)) (sz bn) bd (decide (bn < 0)) := by
    simp [heldD, hc]
  rw [e1, e2]
  clear e1 e2 hc
  generalize sgn (sNum (sz an) ad (decide (an < 0)) (sz bn) bd (decide (bn < 0))) (sS (sz an) ad (decide (an < 0)) (sz bn) bd (decide (bn < 0))) = S at *
  generalize sDen (sz an) ad (decide (an < 0)) (sz bn) bd (decide (bn < 0)) = D at *
  generalize sH (sz an) ad (decide (an < 0)) (sz bn) bd (decide (bn < 0)) = H at *
  generalize bd / sG ad bd = y' at *
  generalize ad / sG ad bd = x' at *
  obtain ⟨fz, -, -⟩ := sum_two_fin x y fx fy hz
  rw [← ez] at fz
  have k1 : holdsB x (an * y') (ad * y') = true := by rw [holdsB_scale x an ad y' fx (by omega) py]; exact hx
  have k2 : holdsB y (bn * x') (bd * x') = true := by rw [holdsB_scale y bn bd x' fy (by omega) px]; exact hy
  rw [hL] at k2
  have k3 := plus_keeps x y (an * y') (bn * x') (ad * y') hz (Int.mul_pos d0 py) k1 k2
  rw [← ez, ← hn, ← hd, holdsB_scale z S D H fz (by omega) H0] at k3
  exact k3
end Go.Proofs.Ytacgkbmhklfcaab
