/-
  The contracts of the document's Sum, Add, Not, Least and of bound.Least: over every row of bounds they return what the plain functions say; Sum and Least leave the world, Add makes new memory alone.
-/
import Derived.Test.YtmnckhchpbdfjaaBh
namespace Go.Proofs.Ytmnckhchpbdfjaa
open Go.RowKit
set_option linter.unusedVariables false

def sJ (l : List Int) : Bool := l.foldl (fun t b => t || (b == 2147483647)) false
theorem sJ_snoc (l : List Int) (x : Int) : sJ (l ++ [x]) = (sJ l || (x == 2147483647)) := by simp [sJ]
theorem foldl_or (f : Int → Bool) : ∀ (l : List Int) (b : Bool), l.foldl (fun t x => t || f x) b = (b || l.any f)
  | [], b => by simp
  | x :: l, b => by rw [List.foldl_cons, foldl_or f l, List.any_cons, Bool.or_assoc]
theorem sJ_eq (l : List Int) (h : sBad l = false) : sJ l = sI l := by
  unfold sJ sI
  rw [foldl_or, foldl_or]
  simp only [Bool.false_or]
  rw [Bool.eq_iff_iff, List.any_eq_true, List.any_eq_true]
  have r : ∀ x ∈ l, rightB x = true := by
    simp only [sBad, List.any_eq_false, Bool.not_eq_true', Bool.not_eq_false] at h
    exact h
  constructor
  · rintro ⟨x, hx, e⟩
    have e : x = 2147483647 := by simpa using e
    subst e
    exact ⟨_, hx, by decide⟩
  · rintro ⟨x, hx, e⟩
    refine ⟨x, hx, ?_⟩
    rcases fin_or_inf (r x hx) with h | h
    · simpa using h
    · simp [h] at e

set_option maxHeartbeats 1000000 in
theorem rsum_any (b off cap : Nat) (l : List Int) (w : World) (hbig : l.length ≤ 9223372036854775807) (hw : ∀ j, -2147483648 ≤ l.getD j 0 ∧ l.getD j 0 ≤ 2147483647)
    (hc : ∀ j, j < l.length → w.cell? ⟨b, off + j, none⟩ = some (.int .i32 (l.getD j 0))) :
    Calls Try.prog 35 #[.slice (some ⟨b, off, none⟩) l.length cap] w fun e w' => e = .returned (.tuple #[.int .i32 (sumB l), .int .i64 (sumE l)]) ∧ w' = w := by
  go_enter Try.func35, Try.ntmps35
  go_wp2_with fail
  go_loop [4, 5] (fun i j => ∃ (k : Nat), k ≤ l.length ∧ j = .int .i64 k ∧ Hid (sBad (l.take k) = false) ∧ i = .bool (sJ (l.take k)))
    (fun _ j => l.length - (intOf j).toNat)
  case atStart => exact ⟨0, Nat.zero_le _, rfl, rfl, rfl⟩
  case round =>
    obtain ⟨k, hk, rfl, hb, rfl⟩ := hrel
    by_cases hlt : k < l.length
    · have hcell := hc k hlt
      obtain ⟨x0, x1⟩ := hw k
      clear hc hw
      have HI : Hid (sJ (l.take (k + 1)) = (sJ (l.take k) || (l.getD k 0 == 2147483647))) := by rw [take_snoc l k hlt]; exact sJ_snoc _ _
      have HB : Hid (sBad (l.take (k + 1)) = (sBad (l.take k) || !rightB (l.getD k 0))) := by rw [take_snoc l k hlt]; exact sBad_snoc _ _
      have HF : Hid (rightB (l.getD k 0) = false → sBad l = true) := sBad_of l k hlt
      generalize l.getD k 0 = x at *
      generalize sJ (l.take k) = i at *
      cases hr : rightB x
      · have e := HF.out hr
        have e1 : Hid (sumB l = 0) := by show sumB l = 0; simp [sumB, e]
        have e2 : Hid (sumE l = 7) := by show sumE l = 7; simp [sumE, e]
        clear e HF HI HB
        go_wp2_with (go_at_call 24; refine (rright_any _ _ x0 x1).mono ?_; rintro e w' ⟨rfl, rfl⟩)
        rw [e1.out, e2.out]
        go_ret2
        exact ⟨rfl, rfl⟩
      · have hb1 : Hid (sBad (l.take (k + 1)) = false) := by
          show sBad (l.take (k + 1)) = false
          rw [HB.out, hb.out, hr]; rfl
        clear HF HB hb
        cases i
        all_goals
          go_wp2_with (go_at_call 24; refine (rright_any _ _ x0 x1).mono ?_; rintro e w' ⟨rfl, rfl⟩)
          go_round
          case rel => exact ⟨k + 1, by omega, by go_num, hb1, by rw [HI.out]; rfl⟩
          case measure => simp [intOf]; omega
    · have ek : l.take k = l := List.take_of_length_le (by omega)
      rw [ek] at hb ⊢
      clear ek
      have hz : Hid (sJ l = sI l) := sJ_eq l hb.out
      cases hi : sJ l
      · have hi2 : sI l = false := by rw [← hz.out]; exact hi
        have e1 : Hid (sumB l = ofB (sT l) (sR l)) := by show sumB l = _; simp [sumB, hb.out, hi2]
        have e2 : Hid (sumE l = ofE (sT l)) := by show sumE l = _; simp [sumE, hb.out, hi2]
        clear hi2 hz
        go_wp2_with fail
        go_loop [6, 7, 8] (fun t r j => ∃ (k : Nat), k ≤ l.length ∧ j = .int .i64 k ∧ t = .int .i64 (sT (l.take k)) ∧ r = .bool (sR (l.take k)))
          (fun _ _ j => l.length - (intOf j).toNat)
        case atStart => exact ⟨0, Nat.zero_le _, rfl, rfl, rfl⟩
        case round =>
          obtain ⟨m, hm, rfl, rfl, rfl⟩ := hrel
          by_cases hmt : m < l.length
          · have hcell := hc m hmt
            obtain ⟨x0, x1⟩ := hw m
            clear hc hw
            have HT : Hid (sT (l.take (m + 1)) = wrap64 (sT (l.take m) + valV (l.getD m 0))) := by rw [take_snoc l m hmt]; exact sT_snoc _ _
            have HR : Hid (sR (l.take (m + 1)) = (sR (l.take m) && valR (l.getD m 0))) := by rw [take_snoc l m hmt]; exact sR_snoc _ _
            generalize l.getD m 0 = x at *
            generalize sT (l.take m) = t at *
            generalize sR (l.take m) = r at *
            clear hb hi
            cases r
            all_goals
              go_wp2_with (go_at_call 34; refine (rvalue_any _ _ x0 x1).mono ?_; rintro e w' ⟨rfl, rfl⟩)
              go_round
              case rel => exact ⟨m + 1, by omega, by go_num, by rw [HT.out], by rw [HR.out]; rfl⟩
              case measure => simp [intOf]; omega
          · have em : l.take m = l := List.take_of_length_le (by omega)
            rw [em]
            clear em hc hw
            go_wp2_with (go_at_call 48; refine (rof_any _ _ _).mono ?_; rintro e w' ⟨rfl, rfl⟩)
            rw [e1.out, e2.out]
            go_ret2
            exact ⟨rfl, rfl⟩
      · have hi2 : sI l = true := by rw [← hz.out]; exact hi
        have e1 : Hid (sumB l = 2147483647) := by show sumB l = _; simp [sumB, hb.out, hi2]
        have e2 : Hid (sumE l = 0) := by show sumE l = _; simp [sumE, hb.out, hi2]
        clear hi2 hz hc hw
        go_wp2_with fail
        rw [e1.out, e2.out]
        go_ret2
        exact ⟨rfl, rfl⟩

theorem rsum_two (bk : Nat) (a b : Int) (w : World) (a0 : -2147483648 ≤ a) (a1 : a ≤ 2147483647) (b0 : -2147483648 ≤ b) (b1 : b ≤ 2147483647) (h0 : w.cell? ⟨bk, 0, none⟩ = some (.int .i32 a)) (h1 : w.cell? ⟨bk, 1, none⟩ = some (.int .i32 b)) :
    Calls Try.prog 35 #[.slice (some ⟨bk, 0, none⟩) 2 2] w fun e w' => e = .returned (.tuple #[.int .i32 (sumB [a, b]), .int .i64 (sumE [a, b])]) ∧ w' = w :=
  rsum_any bk 0 2 [a, b] w (by simp) (fun j => by
      rcases j with _ | _ | j
      · exact ⟨a0, a1⟩
      · exact ⟨b0, b1⟩
      · simp) fun j hj => by
    rcases j with _ | _ | j
    · exact h0
    · exact h1
    · simp at hj; omega

theorem radd_any (a b : Int) (w : World) (a0 : -2147483648 ≤ a) (a1 : a ≤ 2147483647) (b0 : -2147483648 ≤ b) (b1 : b ≤ 2147483647) :
    Calls Try.prog 14 #[.int .i32 a, .int .i32 b] w fun e w' => e = .returned (.tuple #[.int .i32 (sumB [a, b]), .int .i64 (sumE [a, b])]) ∧ Below w.heap.size w w' := by
  go_enter Try.func14, Try.ntmps14
  go_wp2_with (go_at_call 35; refine (rsum_two w.heap.size a b _ a0 a1 b0 b1 (by simp) (by simp)).mono ?_; rintro e w' ⟨rfl, rfl⟩)
  go_ret2
  exact ⟨rfl, (Below.refl _ _).alloc (Nat.le_refl _) _⟩

theorem rnot_any (b : Int) (w : World) (h0 : -2147483648 ≤ b) (h1 : b ≤ 2147483647) :
    Calls Try.prog 36 #[.int .i32 b] w fun e w' => e = .returned (.tuple #[.int .i32 (notB b), .int .i64 (notE b)]) ∧ w' = w := by
  cases f : finB b
  · have e1 : notB b = 0 := by simp [notB, f]
    rw [e1]
    cases r : rightB b
    · have e2 : notE b = 7 := by simp [notE, r]
      rw [e2]
      clear e1 e2
      go_enter Try.func36, Try.ntmps36
      go_wp2_with (first | (go_at_call 24; refine (rright_any _ _ h0 h1).mono ?_; rintro e w' ⟨rfl, rfl⟩) | (go_at_call 34; refine (rvalue_any _ _ h0 h1).mono ?_; rintro e w' ⟨rfl, rfl⟩))
      go_ret2
      exact ⟨rfl, rfl⟩
    · have e2 : notE b = 4 := by simp [notE, r, f]
      rw [e2]
      clear e1 e2
      go_enter Try.func36, Try.ntmps36
      go_wp2_with (first | (go_at_call 24; refine (rright_any _ _ h0 h1).mono ?_; rintro e w' ⟨rfl, rfl⟩) | (go_at_call 34; refine (rvalue_any _ _ h0 h1).mono ?_; rintro e w' ⟨rfl, rfl⟩))
      go_ret2
      exact ⟨rfl, rfl⟩
  · have r := right_of_fin f
    have l := (fin_iff b).1 f
    have l0 : -268435456 ≤ valV b := by simp [valV, f]; omega
    have l1 : valV b ≤ 268435456 := by simp [valV, f]; omega
    have e1 : notB b = ofB (-(valV b)) (!valR b) := by simp [notB, f]
    have e2 : notE b = ofE (-(valV b)) := by simp [notE, r, f]
    rw [e1, e2]
    clear e1 e2 l
    go_enter Try.func36, Try.ntmps36
    go_wp2_with (first | (go_at_call 24; refine (rright_any _ _ h0 h1).mono ?_; rintro e w' ⟨rfl, rfl⟩) | (go_at_call 34; refine (rvalue_any _ _ h0 h1).mono ?_; rintro e w' ⟨rfl, rfl⟩) | (go_at_call 48; refine (rof_any _ _ _).mono ?_; rintro e w' ⟨rfl, rfl⟩))
    go_ret2
    exact ⟨rfl, rfl⟩

/-! ### Least -/
def leastV (l : List Int) : Int := l.foldl min 2147483647
theorem leastV_snoc (l : List Int) (x : Int) : leastV (l ++ [x]) = min (leastV l) x := by simp [leastV]
end Go.Proofs.Ytmnckhchpbdfjaa
