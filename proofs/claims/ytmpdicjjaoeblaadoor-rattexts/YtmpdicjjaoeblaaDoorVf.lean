/-
  The contracts of rat.Div, divide, Floor, Ceil and Frac.
-/
import Derived.Test.YtmpdicjjaoeblaaDoorVe
namespace Go.Proofs.YtmpdicjjaoeblaaDoor
open Go.RowKit Go.Shelf
set_option linter.unusedVariables false
def divT (an ad bn bd : Int) : Int × Int × Int := if rightR an ad && rightR bn bd then (if bn = 0 then (0, 0, 21) else canR (an * sgn bd (decide (bn < 0))) (ad * sz bn)) else (0, 0, 7)
/-! ### divide, Floor, Ceil, Frac -/
theorem tdiv_neg (n d : Int) (hd : 0 < d) (h : n.tmod d < 0) : n / d = n.tdiv d - 1 ∧ n % d = n.tmod d + d := by
  have e := Int.mul_tdiv_add_tmod n d
  have b := Int.lt_tmod_of_pos n hd
  refine (Int.ediv_emod_unique hd).2 ⟨?_, by omega, by omega⟩
  rw [Int.mul_sub]
  omega
theorem tdiv_pos (n d : Int) (hd : 0 < d) (h : ¬ n.tmod d < 0) : n / d = n.tdiv d ∧ n % d = n.tmod d := by
  have e := Int.mul_tdiv_add_tmod n d
  have b := Int.tmod_lt_of_pos n hd
  exact (Int.ediv_emod_unique hd).2 ⟨by omega, by omega, by omega⟩
theorem quo_i64 (n d : Int) (hn : I64 n) (hd : 0 < d) : I64 (n / d) := by
  obtain ⟨h0, h1⟩ := hn
  have e := Int.mul_ediv_add_emod n d
  have r0 := Int.emod_nonneg n (show d ≠ 0 by omega)
  have r1 := Int.emod_lt_of_pos n hd
  constructor
  · by_cases c : 0 ≤ n / d
    · omega
    · have : n ≤ n / d := by
        have h := Int.mul_le_mul_of_nonpos_right (show 1 ≤ d by omega) (show n / d ≤ 0 by omega)
        rcases Int.lt_or_le n (n / d + 1) with h | h
        · omega
        · have k : d * (n / d + 1) ≤ 1 * (n / d + 1) := Int.mul_le_mul_of_nonpos_right (by omega) (by omega)
          rw [Int.mul_add] at k
          omega
      omega
  · by_cases c : n / d ≤ 0
    · omega
    · have h : 1 * (n / d) ≤ d * (n / d) := Int.mul_le_mul_of_nonneg_right (by omega) (by omega)
      omega
set_option maxRecDepth 100000 in
theorem divide_any (n d : Int) (w : World) (hn : I64 n) (d0 : 0 < d) (d1 : d ≤ 9223372036854775807) :
    Calls Tryd.prog 48 #[rv n d] w fun e w' => e = .returned (.tuple #[.int .i64 (n / d), .int .i64 (n % d)]) ∧ Below w.heap.size w w' := by
  have z : ¬ d = 0 := by omega
  have q := quo_i64 n d hn d0
  have r0 := Int.emod_nonneg n z
  have r1 := Int.emod_lt_of_pos n d0
  by_cases c : n.tmod d < 0
  · obtain ⟨e1, e2⟩ := tdiv_neg n d d0 c
    have b := Int.lt_tmod_of_pos n d0
    have nn : n < 0 := by
      apply Int.lt_of_not_ge
      intro h
      have := Int.tmod_nonneg d h
      omega
    have qn : n / d < 0 := Int.ediv_neg_of_neg_of_pos nn d0
    have w1 : IntKind.i64.wrap (n.tdiv d) = n.tdiv d := by rw [IntKind.wrap_i64]; have := q.1; have := q.2; omega
    have w2 : IntKind.i64.wrap (n.tmod d) = n.tmod d := by rw [IntKind.wrap_i64]; omega
    have w3 : IntKind.i64.wrap (n.tdiv d - 1) = n / d := by rw [IntKind.wrap_i64]; have := q.1; have := q.2; omega
    have w4 : IntKind.i64.wrap (n.tmod d + d) = n % d := by rw [IntKind.wrap_i64]; omega
    clear q r0 r1 b e1 e2 hn d0 d1 nn qn
    generalize n / d = X at *
    generalize n % d = Y at *
    go_enter Tryd.func48, Tryd.ntmps48
    go_wp2
    have c0 : (w.alloc (.cells #[.int .i64 n, .int .i64 d] 23)).cell? ⟨w.heap.size, 0, none⟩ = some (.int .i64 n) := by simp [go_sem]
    have c1 : (w.alloc (.cells #[.int .i64 n, .int .i64 d] 23)).cell? ⟨w.heap.size, 1, none⟩ = some (.int .i64 d) := by simp [go_sem]
    go_region_held3 (fun w' => w'.cell? ⟨w.heap.size, 0, none⟩ = some (.int .i64 n) ∧ w'.cell? ⟨w.heap.size, 1, none⟩ = some (.int .i64 d))
      (first | exact ⟨by assumption, by assumption⟩ | go_keep) (fail)
    all_goals go_wp2
    all_goals (first | go_region_held3 (fun w' => w'.cell? ⟨w.heap.size, 0, none⟩ = some (.int .i64 n) ∧ w'.cell? ⟨w.heap.size, 1, none⟩ = some (.int .i64 d)) (first | exact ⟨by assumption, by assumption⟩ | go_keep) (fail) | skip)
    all_goals (try go_wp2)
    all_goals
      refine bodyPost_ret (v := .tuple #[.int .i64 X, .int .i64 Y]) (by simp [results, Tryd.results48, go_sem, *]) rfl ⟨rfl, ?_⟩
      first | exact Below.drew (Below.drew (single _ _)) | exact Below.drew (single _ _)
  · obtain ⟨e1, e2⟩ := tdiv_pos n d d0 c
    have w1 : IntKind.i64.wrap (n.tdiv d) = n.tdiv d := by rw [IntKind.wrap_i64]; have := q.1; have := q.2; omega
    have w2 : IntKind.i64.wrap (n.tmod d) = n.tmod d := by rw [IntKind.wrap_i64]; omega
    rw [e1, e2]
    clear q r0 r1 e1 e2 hn d0 d1
    go_enter Tryd.func48, Tryd.ntmps48
    go_wp2
    have c0 : (w.alloc (.cells #[.int .i64 n, .int .i64 d] 23)).cell? ⟨w.heap.size, 0, none⟩ = some (.int .i64 n) := by simp [go_sem]
    have c1 : (w.alloc (.cells #[.int .i64 n, .int .i64 d] 23)).cell? ⟨w.heap.size, 1, none⟩ = some (.int .i64 d) := by simp [go_sem]
    go_region_held3 (fun w' => w'.cell? ⟨w.heap.size, 0, none⟩ = some (.int .i64 n) ∧ w'.cell? ⟨w.heap.size, 1, none⟩ = some (.int .i64 d))
      (first | exact ⟨by assumption, by assumption⟩ | go_keep) (fail)
    all_goals go_wp2
    all_goals (first | go_region_held3 (fun w' => w'.cell? ⟨w.heap.size, 0, none⟩ = some (.int .i64 n) ∧ w'.cell? ⟨w.heap.size, 1, none⟩ = some (.int .i64 d)) (first | exact ⟨by assumption, by assumption⟩ | go_keep) (fail) | skip)
    all_goals (try go_wp2)
    all_goals
      refine bodyPost_ret (v := .tuple #[.int .i64 (n.tdiv d), .int .i64 (n.tmod d)]) (by simp [results, Tryd.results48, go_sem, *]) rfl ⟨rfl, ?_⟩
      first | exact Below.drew (Below.drew (single _ _)) | exact Below.drew (single _ _)
abbrev AskD (n d x y : Int) : Prop := ∀ w, Calls Tryd.prog 48 #[rv n d] w fun e w' => e = .returned (.tuple #[.int .i64 x, .int .i64 y]) ∧ Below w.heap.size w w'
theorem floor_not (n d : Int) (w : World) (HR : Hid (AskR n d false)) : Calls Tryd.prog 30 #[rv n d] w fun e w' => e = .returned (.int .i64 0) ∧ Below w.heap.size w w' := by
  go_enter Tryd.func30, Tryd.ntmps30
  go_wp2_with fail
  refine (HR.out _).mono ?_
  rintro e w1 ⟨rfl, hb⟩
  have hB := beyond (single w _) hb
  go_wp2_with fail
  go_ret
  exact ⟨rfl, hB⟩
theorem floor_yes (n d x y : Int) (w : World) (HR : Hid (AskR n d true)) (HD : Hid (AskD n d x y)) : Calls Tryd.prog 30 #[rv n d] w fun e w' => e = .returned (.int .i64 x) ∧ Below w.heap.size w w' := by
  go_enter Tryd.func30, Tryd.ntmps30
  go_wp2_with fail
  refine (HR.out _).mono ?_
  rintro e w1 ⟨rfl, hb⟩
  have s0 := kc ⟨w.heap.size, 0, none⟩ (.int .i64 n) hb (by first | assumption | simp [go_sem, *])
  have s1 := kc ⟨w.heap.size, 1, none⟩ (.int .i64 d) hb (by first | assumption | simp [go_sem, *])
  have hB := beyond (single w _) hb
  clear hb
  go_wp2_with fail
  refine (HD.out _).mono ?_
  rintro e w2 ⟨rfl, hb⟩
  have hB2 := beyond hB hb
  go_wp2_with fail
  go_ret
  exact ⟨rfl, hB2⟩
theorem askD (n d : Int) (hn : I64 n) (d0 : 0 < d) (d1 : d ≤ 9223372036854775807) : AskD n d (n / d) (n % d) := fun w => divide_any n d w hn d0 d1
def floorT (n d : Int) : Int := if rightR n d then n / d else 0
theorem floor_any (n d : Int) (w : World) (hn : I64 n) (hd : I64 d) : Calls Tryd.prog 30 #[rv n d] w fun e w' => e = .returned (.int .i64 (floorT n d)) ∧ Below w.heap.size w w' := by
  have k := askR n d hn hd
  cases r : rightR n d
  · rw [r] at k
    have e : floorT n d = 0 := by simp [floorT, r]
    rw [e]
    exact floor_not n d w k
  · rw [r] at k
    have e : floorT n d = n / d := by simp [floorT, r]
    rw [e]
    exact floor_yes n d _ _ w k (askD n d hn (right_pos r).1 hd.2)
end Go.Proofs.YtmpdicjjaoeblaaDoor
