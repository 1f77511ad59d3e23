/-
  What OpsTwice asks of a clock that is set, and from where.
-/
import Derived.Test.YtohkbjkfpnhggaaZm
namespace Go.Proofs.Ytohkbjkfpnhggaa
open Go.RowKit
set_option linter.unusedVariables false
set_option maxRecDepth 100000
theorem RightM.lim {n i j : Nat} {M : Mat} {v : Int} (h : RightM n M) (hi : i ≤ n) (hj : j ≤ n) (v0 : -536870912 ≤ v) (v1 : v ≤ 536870913) : RightM n (limM M i j v) := fun a b ha hb => by
  have r := h i j hi hj
  unfold limM upd
  split
  · exact .inr (by omega)
  · exact h a b ha hb
/-- The draft of a zone with a clock at a number. -/
def exM (n m x : Nat) (k : Int) (c : Row) : Mat := limM (limM (oR n c m) x 0 (2 * k + 1)) 0 x (-(2 * k) + 1)
/-- The draft of a zone with a clock set to a number. -/
def rsM (n m x : Nat) (k : Int) (c : Row) : Mat := limM (limM (freeK x (n + 1) (oR n c m)) x 0 (2 * k + 1)) 0 x (-(2 * k) + 1)
theorem zc_rightM {n m : Nat} {c : Row} (hm : m = (n + 1) * (n + 1)) (h : ZC n m c) : RightM n (oR n c m) := by
  rcases h with rfl | ⟨p, hp⟩
  · exact right_zero (m := m) fun i j hi hj => by rw [oR_zero]; exact .inl rfl
  · exact hp.rightM hm
theorem zc_exM {n m x : Nat} {k : Int} {c : Row} (hm : m = (n + 1) * (n + 1)) (h : ZC n m c) (hx : x ≤ n) (k0 : 0 ≤ k) (k1 : k ≤ 1048576) : RightM n (exM n m x k c) :=
  ((zc_rightM hm h).lim hx (by omega) (by omega) (by omega)).lim (by omega) hx (by omega) (by omega)
theorem zc_rsM {n m x : Nat} {k : Int} {c : Row} (hn : n ≤ 8) (hm : m = (n + 1) * (n + 1)) (h : ZC n m c) (x1 : 1 ≤ x) (hx : x ≤ n) (k0 : 0 ≤ k) (k1 : k ≤ 1048576) : RightM n (rsM n m x k c) := by
  obtain ⟨_, _, _, hR, _⟩ := free_row hn hm h x1 hx
  exact (hR.lim hx (by omega) (by omega) (by omega)).lim (by omega) hx (by omega) (by omega)
theorem rs_empty {n m x : Nat} {k : Int} (hm : m = (n + 1) * (n + 1)) (x1 : 1 ≤ x) : zoneR n (drf n m (rowsL n (rsM n m x k (fun _ => 0)) (n + 1))) = some fun _ => 0 := by
  refine pm_hollow' hm ?_
  have e : freeK x (n + 1) (oR n (fun _ => 0) m) 0 0 = 0 := by rw [oR_zero, freeK_at x1, if_neg (by omega), if_neg (by omega)]
  unfold rsM limM upd
  rw [if_neg (by omega), if_neg (by omega), e]
  exact Int.le_refl _
theorem ex_empty {n m x : Nat} {k : Int} (hm : m = (n + 1) * (n + 1)) (x1 : 1 ≤ x) : zoneR n (drf n m (rowsL n (exM n m x k (fun _ => 0)) (n + 1))) = some fun _ => 0 := by
  refine pm_hollow' hm ?_
  unfold exM limM upd
  rw [if_neg (by omega), if_neg (by omega), oR_zero]
  exact Int.le_refl _
theorem nm_of {k : Int} (k0 : 0 ≤ k) (k1 : k ≤ 1048576) : Nm k (2 * k + 1) (-(2 * k) + 1) := ⟨k0, k1, rfl, rfl⟩
end Go.Proofs.Ytohkbjkfpnhggaa
