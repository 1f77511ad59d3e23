/-
  The contracts of bound.Sum and Add: Sum reads a row of bounds and leaves the world; Add makes new memory alone.
-/
import Derived.Test.YtacgkbmhklfcaabBa
namespace Go.Proofs.Ytacgkbmhklfcaab
open Go.RowKit
def sT (l : List Int) : Int := l.foldl (fun t b => wrap64 (t + valV b)) 0
def sR (l : List Int) : Bool := l.foldl (fun t b => t && valR b) true
def sI (l : List Int) : Bool := l.foldl (fun t b => t || !finB b) false
def sBad (l : List Int) : Bool := l.any (fun b => !rightB b)
def sumB (l : List Int) : Int := if sBad l then 0 else if sI l then 2147483647 else ofB (sT l) (sR l)
def sumE (l : List Int) : Int := if sBad l then 7 else if sI l then 0 else ofE (sT l)
theorem take_snoc (l : List Int) (k : Nat) (h : k < l.length) : l.take (k + 1) = l.take k ++ [l.getD k 0] := by
  rw [List.take_succ_eq_append_getElem h]; simp [List.getD, h]
theorem sT_snoc (l : List Int) (x : Int) : sT (l ++ [x]) = wrap64 (sT l + valV x) := by simp [sT]
theorem sR_snoc (l : List Int) (x : Int) : sR (l ++ [x]) = (sR l && valR x) := by simp [sR]
theorem sI_snoc (l : List Int) (x : Int) : sI (l ++ [x]) = (sI l || !finB x) := by simp [sI]
theorem sBad_snoc (l : List Int) (x : Int) : sBad (l ++ [x]) = (sBad l || !rightB x) := by simp [sBad]
theorem sBad_of (l : List Int) (k : Nat) (h : k < l.length) (hx : rightB (l.getD k 0) = false) : sBad l = true := by
  simp only [sBad, List.any_eq_true]
  refine ⟨l.getD k 0, ?_, by simp only [hx]; rfl⟩
  simp only [List.getD, List.getElem?_eq_getElem h, Option.getD_some]
  exact List.getElem_mem h

set_option maxHeartbeats 400000 in
theorem sum_any (b off cap : Nat) (l : List Int) (w : World) (hbig : l.length ≤ 9223372036854775807)
    (hc : ∀ j, j < l.length → w.cell? ⟨b, off + j, none⟩ = some (.int .i32 (l.getD j 0))) :
    Calls Try.prog 24 #[.slice (some ⟨b, off, none⟩) l.length cap] w fun e w' => e = .returned (.tuple #[.int .i32 (sumB l), .int .i64 (sumE l)]) ∧ w' = w := by
  go_enter Try.func24, Try.ntmps24
  go_wp2_with fail
  go_loop [4, 5, 6, 14] (fun t r i j => ∃ (k : Nat), k ≤ l.length ∧ j = .int .i64 k ∧ Hid (sBad (l.take k) = false) ∧ t = .int .i64 (sT (l.take k)) ∧ r = .bool (sR (l.take k)) ∧ i = .bool (sI (l.take k)))
    (fun _ _ _ j => l.length - (intOf j).toNat)
  case atStart => exact ⟨0, Nat.zero_le _, rfl, rfl, rfl, rfl, rfl⟩
  case round =>
    obtain ⟨k, hk, rfl, hb, rfl, rfl, rfl⟩ := hrel
    by_cases hlt : k < l.length
    · have hcell := hc k hlt
      clear hc
      have HT : Hid (sT (l.take (k + 1)) = wrap64 (sT (l.take k) + valV (l.getD k 0))) := by rw [take_snoc l k hlt]; exact sT_snoc _ _
      have HR : Hid (sR (l.take (k + 1)) = (sR (l.take k) && valR (l.getD k 0))) := by rw [take_snoc l k hlt]; exact sR_snoc _ _
      have HI : Hid (sI (l.take (k + 1)) = (sI (l.take k) || !finB (l.getD k 0))) := by rw [take_snoc l k hlt]; exact sI_snoc _ _
      have HB : Hid (sBad (l.take (k + 1)) = (sBad (l.take k) || !rightB (l.getD k 0))) := by rw [take_snoc l k hlt]; exact sBad_snoc _ _
      have HF : Hid (rightB (l.getD k 0) = false → sBad l = true) := sBad_of l k hlt
      generalize l.getD k 0 = x at *
      generalize sT (l.take k) = t at *
      generalize sR (l.take k) = r at *
      generalize sI (l.take k) = i at *
      cases hr : rightB x
      · have e := HF.out hr
        have e1 : Hid (sumB l = 0) := by show sumB l = 0; simp [sumB, e]
        have e2 : Hid (sumE l = 7) := by show sumE l = 7; simp [sumE, e]
        clear e HF HT HR HI HB
        go_wp2_with (go_at_call 30; refine (right_any _ _).mono ?_; rintro e w' ⟨rfl, rfl⟩)
        rw [e1.out, e2.out]
        go_ret2
        exact ⟨rfl, rfl⟩
      · have hb1 : Hid (sBad (l.take (k + 1)) = false) := by
          show sBad (l.take (k + 1)) = false
          rw [HB.out, hb.out, hr]; rfl
        clear HF HB hb
        cases r <;> cases i
        all_goals
          go_wp2_with (first | (go_at_call 30; refine (right_any _ _).mono ?_; rintro e w' ⟨rfl, rfl⟩) | (go_at_call 22; refine (value_any _ _).mono ?_; rintro e w' ⟨rfl, rfl⟩))
          go_round
          case rel => exact ⟨k + 1, by omega, by go_num, hb1, by rw [HT.out], by rw [HR.out]; rfl, by rw [HI.out]; rfl⟩
          case measure => simp [intOf]; omega
    · have ek : l.take k = l := List.take_of_length_le (by omega)
      rw [ek] at hb ⊢
      clear hc ek
      cases hi : sI l
      · have e1 : Hid (sumB l = ofB (sT l) (sR l)) := by show sumB l = _; simp [sumB, hb.out, hi]
        have e2 : Hid (sumE l = ofE (sT l)) := by show sumE l = _; simp [sumE, hb.out, hi]
        go_wp2_with (go_at_call 13; refine (of_any _ _ _).mono ?_; rintro e w' ⟨rfl, rfl⟩)
        rw [e1.out, e2.out]
        go_ret2
        exact ⟨rfl, rfl⟩
      · have e1 : Hid (sumB l = 2147483647) := by show sumB l = _; simp [sumB, hb.out, hi]
        have e2 : Hid (sumE l = 0) := by show sumE l = _; simp [sumE, hb.out, hi]
        go_wp2_with fail
        rw [e1.out, e2.out]
        go_ret2
        exact ⟨rfl, rfl⟩

theorem sum_two (bk : Nat) (a b : Int) (w : World) (h0 : w.cell? ⟨bk, 0, none⟩ = some (.int .i32 a)) (h1 : w.cell? ⟨bk, 1, none⟩ = some (.int .i32 b)) :
    Calls Try.prog 24 #[.slice (some ⟨bk, 0, none⟩) 2 2] w fun e w' => e = .returned (.tuple #[.int .i32 (sumB [a, b]), .int .i64 (sumE [a, b])]) ∧ w' = w :=
  sum_any bk 0 2 [a, b] w (by simp) fun j hj => by
    rcases j with _ | _ | j
    · exact h0
    · exact h1
    · simp at hj; omega

theorem add_any (a b : Int) (w : World) :
    Calls Try.prog 12 #[.int .i32 a, .int .i32 b] w fun e w' => e = .returned (.tuple #[.int .i32 (sumB [a, b]), .int .i64 (sumE [a, b])]) ∧ Below w.heap.size w w' := by
  go_enter Try.func12, Try.ntmps12
  go_wp2_with (go_at_call 24; refine (sum_two w.heap.size a b _ (by simp) (by simp)).mono ?_; rintro e w' ⟨rfl, rfl⟩)
  go_ret2
  exact ⟨rfl, (Below.refl _ _).alloc (Nat.le_refl _) _⟩

end Go.Proofs.Ytacgkbmhklfcaab
