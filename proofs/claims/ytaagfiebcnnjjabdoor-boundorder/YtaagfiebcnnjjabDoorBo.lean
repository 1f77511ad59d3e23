/-
  The walk of the law BoundOrder: for every three bounds it returns true, and nothing that was there has turned; the condition: the library's table of powers of ten lies as its text lays it.
-/
import Derived.Test.YtaagfiebcnnjjabDoorBp
import Derived.OpenShut
namespace Go.Proofs.YtaagfiebcnnjjabDoor
open Go.RowKit
set_option linter.unusedVariables false

theorem sT_two (a b : Int) : sT [a, b] = wrap64 (wrap64 (valV a) + valV b) := by simp [sT]
theorem valV_small (a : Int) : -268435456 ≤ valV a ∧ valV a ≤ 268435456 := by
  cases f : finB a
  · simp [valV, f]
  · have l := (fin_iff a).1 f
    rw [valV_fin a f]
    omega
theorem sT_two_eq (a b : Int) : sT [a, b] = valV a + valV b := by
  have := valV_small a
  have := valV_small b
  rw [sT_two, wrap_small (valV a) (by omega) (by omega), wrap_small _ (by omega) (by omega)]
theorem sT_three_eq (a b c : Int) : sT [a, b, c] = valV a + valV b + valV c := by
  have := valV_small a
  have := valV_small b
  have := valV_small c
  have e : sT [a, b, c] = wrap64 (sT [a, b] + valV c) := by simp [sT]
  rw [e, sT_two_eq, wrap_small _ (by omega) (by omega)]
theorem sum_swap (a b : Int) : sumB [a, b] = sumB [b, a] ∧ sumE [a, b] = sumE [b, a] := by
  have h1 : sBad [a, b] = sBad [b, a] := by simp [sBad, Bool.or_comm]
  have h2 : sI [a, b] = sI [b, a] := by simp [sI, Bool.or_comm]
  have h3 : sT [a, b] = sT [b, a] := by rw [sT_two_eq, sT_two_eq, Int.add_comm]
  have h4 : sR [a, b] = sR [b, a] := by simp [sR, Bool.and_comm]
  simp only [sumB, sumE, h1, h2, h3, h4, and_self]

theorem sum_inf_any (l : List Int) (hb : sBad l = false) (hi : sI l = true) : sumB l = 2147483647 ∧ sumE l = 0 := by simp [sumB, sumE, hb, hi]
theorem sum_fin_two (a b : Int) (fa : finB a = true) (fb : finB b = true) : sumB [a, b] = ofB (valV a + valV b) (valR a && valR b) ∧ sumE [a, b] = ofE (valV a + valV b) := by
  have bad : sBad [a, b] = false := by simp [sBad, right_of_fin fa, right_of_fin fb]
  have inf : sI [a, b] = false := by simp [sI, fa, fb]
  have rea : sR [a, b] = (valR a && valR b) := by simp [sR]
  simp [sumB, sumE, bad, inf, sT_two_eq, rea]
theorem sum_fin_three (a b c : Int) (fa : finB a = true) (fb : finB b = true) (fc : finB c = true) : sumB [a, b, c] = ofB (valV a + valV b + valV c) (valR a && valR b && valR c) ∧ sumE [a, b, c] = ofE (valV a + valV b + valV c) := by
  have bad : sBad [a, b, c] = false := by simp [sBad, right_of_fin fa, right_of_fin fb, right_of_fin fc]
  have inf : sI [a, b, c] = false := by simp [sI, fa, fb, fc]
  have rea : sR [a, b, c] = (valR a && valR b && valR c) := by simp [sR]
  simp [sumB, sumE, bad, inf, sT_three_eq, rea]

/-- P1.8: sums in any order. -/
theorem sum_order (a b c : Int) (h1 : sumE [a, b] = 0) (h2 : sumE [b, c] = 0) :
    sumB [sumB [a, b], c] = sumB [a, b, c] ∧ sumE [sumB [a, b], c] = sumE [a, b, c] ∧ sumB [a, sumB [b, c]] = sumB [a, b, c] ∧ sumE [a, sumB [b, c]] = sumE [a, b, c] := by
  obtain ⟨ra, rb⟩ := sum_two_right a b h1
  obtain ⟨_, rc⟩ := sum_two_right b c h2
  have z : finB 2147483647 = false := by decide
  have ri := right_inf
  have bad : sBad [a, b, c] = false := by simp [sBad, ra, rb, rc]
  rcases fin_or_inf rb with hb | fb
  · have x1 := sum_two_inf a b h1 (.inr hb)
    have x2 := sum_two_inf b c h2 (.inl hb)
    rw [x1, x2]
    have e3 := sum_inf_any [a, b, c] bad (by subst hb; simp [sI, z])
    have e1 := sum_inf_any [2147483647, c] (by simp [sBad, ri, rc]) (by simp [sI, z])
    have e2 := sum_inf_any [a, 2147483647] (by simp [sBad, ri, ra]) (by simp [sI, z])
    rw [e1.1, e1.2, e2.1, e2.2, e3.1, e3.2]
    exact ⟨rfl, rfl, rfl, rfl⟩
  rcases fin_or_inf ra with ha | fa
  · have x1 := sum_two_inf a b h1 (.inl ha)
    have r2 : rightB (sumB [b, c]) = true := by
      rcases fin_or_inf rc with hc | fc
      · rw [sum_two_inf b c h2 (.inr hc)]; exact ri
      · exact right_of_fin (sum_two_fin b c fb fc h2).1
    have e3 := sum_inf_any [a, b, c] bad (by subst ha; simp [sI, z])
    have e1 := sum_inf_any [2147483647, c] (by simp [sBad, ri, rc]) (by simp [sI, z])
    have e2 := sum_inf_any [a, sumB [b, c]] (by simp [sBad, ra, r2]) (by subst ha; simp [sI, z])
    rw [x1, e1.1, e1.2, e2.1, e2.2, e3.1, e3.2]
    exact ⟨rfl, rfl, rfl, rfl⟩
  obtain ⟨f1, v1, q1⟩ := sum_two_fin a b fa fb h1
  rcases fin_or_inf rc with hc | fc
  · have x2 := sum_two_inf b c h2 (.inr hc)
    have e3 := sum_inf_any [a, b, c] bad (by subst hc; simp [sI, z])
    have e1 := sum_inf_any [sumB [a, b], c] (by simp [sBad, right_of_fin f1, rc]) (by subst hc; simp [sI, z])
    have e2 := sum_inf_any [a, 2147483647] (by simp [sBad, ri, ra]) (by simp [sI, z])
    rw [x2, e1.1, e1.2, e2.1, e2.2, e3.1, e3.2]
    exact ⟨rfl, rfl, rfl, rfl⟩
  obtain ⟨f2, v2, q2⟩ := sum_two_fin b c fb fc h2
  obtain ⟨e1, e2⟩ := sum_fin_two (sumB [a, b]) c f1 fc
  obtain ⟨e3, e4⟩ := sum_fin_two a (sumB [b, c]) fa f2
  obtain ⟨e5, e6⟩ := sum_fin_three a b c fa fb fc
  rw [e1, e2, e3, e4, e5, e6, v1, q1, v2, q2, Int.add_assoc, Bool.and_assoc]
  exact ⟨rfl, rfl, rfl, rfl⟩

theorem sum_three (bk : Nat) (a b c : Int) (w : World) (h0 : w.cell? ⟨bk, 0, none⟩ = some (.int .i32 a)) (h1 : w.cell? ⟨bk, 1, none⟩ = some (.int .i32 b)) (h2 : w.cell? ⟨bk, 2, none⟩ = some (.int .i32 c)) :
    Calls Tryd.prog 9 #[.slice (some ⟨bk, 0, none⟩) 3 3] w fun e w' => e = .returned (.tuple #[.int .i32 (sumB [a, b, c]), .int .i64 (sumE [a, b, c])]) ∧ w' = w :=
  sum_any bk 0 3 [a, b, c] w (by simp) fun j hj => by
    rcases j with _ | _ | _ | j
    · exact h0
    · exact h1
    · exact h2
    · simp at hj; omega

namespace boundOrder
set_option maxHeartbeats 1000000 in
theorem walk (a : Int) (ha : (Lit.int .i32 a).wf = true) (b : Int) (hb : (Lit.int .i32 b).wf = true) (c : Int) (hc : (Lit.int .i32 c).wf = true) (w : World) (ht : Pow w) :
    Calls Tryd.prog 3 #[.int .i32 a, .int .i32 b, .int .i32 c] w fun e w' => e = .returned (.bool true) ∧ Below w.heap.size w w' := by
  clear ha hb hc
  obtain ⟨s1, s2⟩ := sum_swap b a
  have ord := sum_order a b c
  have S1 : Hid (sumB [b, a] = sumB [a, b]) := s1
  have S2 : Hid (sumE [b, a] = sumE [a, b]) := s2
  clear s1 s2
  go_enter Tryd.func3, Tryd.ntmps3
  go_wp2_with fail
  refine (add_any _ _ _).mono ?_
  rintro e w1 ⟨rfl, h1⟩
  go_wp2_with fail
  refine (from_below (add_any _ _ _) h1).mono ?_
  rw [S1.out, S2.out]
  rintro e w2 ⟨rfl, h2⟩
  go_wp2_with fail
  refine (sum_two w2.heap.size a b _ (by simp) (by simp)).mono ?_
  rintro e w3 ⟨rfl, rfl⟩
  have h3 : Below w.heap.size w (w2.alloc (.cells #[.int .i32 a, .int .i32 b] 22)) := h2.alloc h2.size _
  go_wp2_with fail
  refine (from_below (live_any _ (pow_later ht h3)) h3).mono ?_
  rintro e w4 ⟨rfl, h4⟩
  go_wp2_with fail
  refine (from_below (add_any _ _ _) h4).mono ?_
  rintro e w5 ⟨rfl, h5⟩
  by_cases e1 : sumE [a, b] = 0
  · by_cases e2 : sumE [b, c] = 0
    · obtain ⟨o1, o2, o3, o4⟩ := ord e1 e2
      have O1 : Hid (sumB [sumB [a, b], c] = sumB [a, b, c]) := o1
      have O2 : Hid (sumE [sumB [a, b], c] = sumE [a, b, c]) := o2
      have O3 : Hid (sumB [a, sumB [b, c]] = sumB [a, b, c]) := o3
      have O4 : Hid (sumE [a, sumB [b, c]] = sumE [a, b, c]) := o4
      clear o1 o2 o3 o4 ord
      go_wp2_with fail
      refine (from_below (add_any _ _ _) h5).mono ?_
      rw [O1.out, O2.out]
      rintro e w6 ⟨rfl, h6⟩
      go_wp2_with fail
      refine (from_below (add_any _ _ _) h6).mono ?_
      rw [O3.out, O4.out]
      rintro e w7 ⟨rfl, h7⟩
      go_wp2_with fail
      refine (sum_three w7.heap.size a b c _ (by simp) (by simp) (by simp)).mono ?_
      rintro e w8 ⟨rfl, rfl⟩
      have h8 : Below w.heap.size w (w7.alloc (.cells #[.int .i32 a, .int .i32 b, .int .i32 c] 22)) := h7.alloc h7.size _
      go_wp2
      go_ret
      exact ⟨rfl, h8⟩
    · have e2' : (sumE [b, c] != 0) = true := by simpa using e2
      clear e2 ord
      go_wp2
      go_ret
      exact ⟨rfl, h5⟩
  · have e1' : (sumE [a, b] != 0) = true := by simpa using e1
    clear e1 ord
    go_wp2
    go_ret
    exact ⟨rfl, h5⟩
end boundOrder
end Go.Proofs.YtaagfiebcnnjjabDoor
