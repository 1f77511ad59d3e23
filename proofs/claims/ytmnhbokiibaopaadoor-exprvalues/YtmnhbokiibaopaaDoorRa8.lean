/-
  The document's sum and product.
-/
import Derived.Test.YtmnhbokiibaopaaDoorQm
import Derived.Test.YtmnhbokiibaopaaDoorSc
namespace Go.Proofs.YtmnhbokiibaopaaDoor
open Go.RowKit
set_option linter.unusedVariables false
set_option maxRecDepth 100000 in
theorem rsum_any (a b : Int) (ha : inR a) (hb : inR b) (w : World) : Calls Tryd.prog 74 #[.int .i64 a, .int .i64 b] w fun e w' => e = .returned (.tuple #[.int .i64 (wrap64 (a + b)), .bool (decide (inR (a + b)))]) ∧ Below w.heap.size w w' := by
  have B := hideR (Below.refl w.heap.size w)
  have hw : Hid (∀ s, s = wrap64 (a + b) → (if 0 ≤ b then decide (a ≤ s) else decide (s < a)) = decide (inR (a + b))) := by
    rintro s rfl
    unfold wrap64
    split
    · rw [decide_eq_decide]
      omega
    · rw [decide_eq_decide]
      omega
  clear ha hb
  have h2 := hw.out _ rfl
  have HW : Hid ((if 0 ≤ b then decide (a ≤ wrap64 (a + b)) else decide (wrap64 (a + b) < a)) = decide (inR (a + b))) := h2
  clear h2 hw
  generalize decide (inR (a + b)) = r at *
  by_cases c : 0 ≤ b
  · have hq : decide (a ≤ wrap64 (a + b)) = r := by have := HW.out; rwa [if_pos c] at this
    have c2 : ¬ b < 0 := by omega
    clear HW
    by_cases d : a ≤ wrap64 (a + b)
    · have hr : r = true := by rw [← hq]; exact decide_eq_true d
      subst hr
      clear hq
      go_enter Tryd.func74, Tryd.ntmps74
      go_wp2_with fail
      exact bodyPost_ret (v := .tuple #[.int .i64 (wrap64 (a + b)), .bool true]) (by simp [results, Tryd.results74, go_sem]) rfl ⟨rfl, B.out⟩
    · have hr : r = false := by rw [← hq]; exact decide_eq_false d
      subst hr
      clear hq
      go_enter Tryd.func74, Tryd.ntmps74
      go_wp2_with fail
      exact bodyPost_ret (v := .tuple #[.int .i64 (wrap64 (a + b)), .bool false]) (by simp [results, Tryd.results74, go_sem]) rfl ⟨rfl, B.out⟩
  · have hq : decide (wrap64 (a + b) < a) = r := by have := HW.out; rwa [if_neg c] at this
    have c2 : b < 0 := by omega
    clear HW
    by_cases d : wrap64 (a + b) < a
    · have hr : r = true := by rw [← hq]; exact decide_eq_true d
      subst hr
      clear hq
      go_enter Tryd.func74, Tryd.ntmps74
      go_wp2_with fail
      exact bodyPost_ret (v := .tuple #[.int .i64 (wrap64 (a + b)), .bool true]) (by simp [results, Tryd.results74, go_sem]) rfl ⟨rfl, B.out⟩
    · have hr : r = false := by rw [← hq]; exact decide_eq_false d
      subst hr
      clear hq
      go_enter Tryd.func74, Tryd.ntmps74
      go_wp2_with fail
      exact bodyPost_ret (v := .tuple #[.int .i64 (wrap64 (a + b)), .bool false]) (by simp [results, Tryd.results74, go_sem]) rfl ⟨rfl, B.out⟩
/-- A product, if it can be held. -/
def prodT (x : Int) : Int × Bool := if inR x then (x, true) else (0, false)
theorem u64_back (A : Nat) (h1 : 1 ≤ A) (h : A ≤ 9223372036854775808) : ∃ x : Int, IntKind.u64.wrap (-(A : Int)) = x ∧ IntKind.u64.wrap (-x) = (A : Int) := by
  refine ⟨18446744073709551616 - (A : Int), ?_, ?_⟩ <;> rw [IntKind.wrap_u64] <;> omega
theorem neg_back (lo : Nat) (h : lo ≤ 9223372036854775808) : ∃ z : Int, IntKind.u64.wrap (-(lo : Int)) = z ∧ IntKind.i64.wrap z = -(lo : Int) := by
  by_cases c : lo = 0
  · subst c
    exact ⟨0, by rw [IntKind.wrap_u64]; omega, by rw [IntKind.wrap_i64]; omega⟩
  · refine ⟨18446744073709551616 - (lo : Int), ?_, ?_⟩
    · rw [IntKind.wrap_u64]; omega
    · rw [IntKind.wrap_i64]; omega
set_option maxRecDepth 100000 in
theorem rprod_pp (A B P : Nat) (hA : A ≤ 9223372036854775807) (hB : B ≤ 9223372036854775807) (hP : A * B = P) (w : World) : Calls Tryd.prog 73 #[.int .i64 ((A : Int)), .int .i64 ((B : Int))] w fun e w' => e = .returned (.tuple #[.int .i64 (prodT ((P : Int))).1, .bool (prodT ((P : Int))).2]) ∧ Below w.heap.size w w' := by
  have BB := hideR (Below.refl w.heap.size w)
  have M := hideR (Go.Proofs.Tryd.bits_Mul64 A B (by omega) (by omega) w)
  rw [hP] at M
  have ea1 : IntKind.u64.wrap (A : Int) = (A : Int) := by rw [IntKind.wrap_u64]; omega
  have a0 : ¬ (A : Int) < 0 := by omega
  have eb1 : IntKind.u64.wrap (B : Int) = (B : Int) := by rw [IntKind.wrap_u64]; omega
  have b0 : ¬ (B : Int) < 0 := by omega
  clear hP hA hB
  by_cases c : P ≤ 9223372036854775807
  · have hr : prodT ((P : Int)) = ((P : Int), true) := if_pos ⟨by omega, by omega⟩
    rw [hr]
    have h1 : P / 18446744073709551616 = 0 := by omega
    have h2 : P % 18446744073709551616 = P := by omega
    rw [h1, h2] at M
    have d1 : ¬ (9223372036854775808 : Int) < (P : Int) := by omega
    have d2 : ¬ (P : Int) = 9223372036854775808 := by omega
    have d3 : ((P : Int) == 9223372036854775808) = false := by simp; omega
    have z1 : IntKind.i64.wrap (P : Int) = (P : Int) := by rw [IntKind.wrap_i64]; omega
    clear h1 h2 hr c
    go_enter Tryd.func73, Tryd.ntmps73
    go_wp2_with fail
    refine M.out.mono ?_
    rintro e w1 ⟨rfl, rfl⟩
    clear M
    go_wp2_with fail
    all_goals exact bodyPost_ret (v := .tuple #[.int .i64 ((P : Int)), .bool true]) (by simp [results, Tryd.results73, go_sem]) rfl ⟨rfl, BB.out⟩
  · have hr : prodT ((P : Int)) = (0, false) := if_neg (fun q => by have := q.1; have := q.2; omega)
    rw [hr]
    clear hr
    by_cases ch : P / 18446744073709551616 = 0
    · have h2 : P % 18446744073709551616 = P := by omega
      rw [ch, h2] at M
      by_cases ce : P = 9223372036854775808
      · subst ce
        clear ch h2 c
        go_enter Tryd.func73, Tryd.ntmps73
        go_wp2_with fail
        refine M.out.mono ?_
        rintro e w1 ⟨rfl, rfl⟩
        clear M
        go_wp2_with fail
        all_goals exact bodyPost_ret (v := .tuple #[.int .i64 (0), .bool false]) (by simp [results, Tryd.results73, go_sem]) rfl ⟨rfl, BB.out⟩
      · have d1 : (9223372036854775808 : Int) < (P : Int) := by omega
        clear ch h2 c ce
        go_enter Tryd.func73, Tryd.ntmps73
        go_wp2_with fail
        refine M.out.mono ?_
        rintro e w1 ⟨rfl, rfl⟩
        clear M
        go_wp2_with fail
        all_goals exact bodyPost_ret (v := .tuple #[.int .i64 (0), .bool false]) (by simp [results, Tryd.results73, go_sem]) rfl ⟨rfl, BB.out⟩
    · generalize P / 18446744073709551616 = hi at *
      generalize P % 18446744073709551616 = lo at *
      have d1 : ¬ (hi : Int) = 0 := by omega
      have d2 : ((hi : Int) == 0) = false := by simp; omega
      clear ch c
      go_enter Tryd.func73, Tryd.ntmps73
      go_wp2_with fail
      refine M.out.mono ?_
      rintro e w1 ⟨rfl, rfl⟩
      clear M
      go_wp2_with fail
      all_goals exact bodyPost_ret (v := .tuple #[.int .i64 (0), .bool false]) (by simp [results, Tryd.results73, go_sem]) rfl ⟨rfl, BB.out⟩
set_option maxRecDepth 100000 in
theorem rprod_pm (A B P : Nat) (hA : A ≤ 9223372036854775807) (hB : 1 ≤ B ∧ B ≤ 9223372036854775808) (hP : A * B = P) (w : World) : Calls Tryd.prog 73 #[.int .i64 ((A : Int)), .int .i64 (-(B : Int))] w fun e w' => e = .returned (.tuple #[.int .i64 (prodT (-(P : Int))).1, .bool (prodT (-(P : Int))).2]) ∧ Below w.heap.size w w' := by
  have BB := hideR (Below.refl w.heap.size w)
  have M := hideR (Go.Proofs.Tryd.bits_Mul64 A B (by omega) (by omega) w)
  rw [hP] at M
  have ea1 : IntKind.u64.wrap (A : Int) = (A : Int) := by rw [IntKind.wrap_u64]; omega
  have a0 : ¬ (A : Int) < 0 := by omega
  obtain ⟨xb, eb1, eb2⟩ := u64_back B hB.1 hB.2
  have b0 : -(B : Int) < 0 := by omega
  have b1 : (0 : Int) < (B : Int) := by omega
  clear hP hA hB
  by_cases c : P ≤ 9223372036854775808
  · have hr : prodT (-(P : Int)) = (-(P : Int), true) := if_pos ⟨by omega, by omega⟩
    rw [hr]
    have h1 : P / 18446744073709551616 = 0 := by omega
    have h2 : P % 18446744073709551616 = P := by omega
    rw [h1, h2] at M
    have d1 : ¬ (9223372036854775808 : Int) < (P : Int) := by omega
    obtain ⟨z, z1, z2⟩ := neg_back P c
    by_cases ce : P = 9223372036854775808
    · subst ce
      have zz : wrap64 (IntKind.u64.wrap (-9223372036854775808)) = -9223372036854775808 := by rw [IntKind.wrap_u64]; unfold wrap64; omega
      clear h1 h2 hr c z1 z2 z
      go_enter Tryd.func73, Tryd.ntmps73
      go_wp2_with fail
      refine M.out.mono ?_
      rintro e w1 ⟨rfl, rfl⟩
      clear M
      go_wp2_with fail
      all_goals exact bodyPost_ret (v := .tuple #[.int .i64 (-9223372036854775808), .bool true]) (by simp [results, Tryd.results73, go_sem, zz]) rfl ⟨rfl, BB.out⟩
    · have d2 : ¬ (P : Int) = 9223372036854775808 := by omega
      have d3 : ((P : Int) == 9223372036854775808) = false := by simp; omega
      clear h1 h2 hr c
      go_enter Tryd.func73, Tryd.ntmps73
      go_wp2_with fail
      refine M.out.mono ?_
      rintro e w1 ⟨rfl, rfl⟩
      clear M
      go_wp2_with fail
      all_goals exact bodyPost_ret (v := .tuple #[.int .i64 (-(P : Int)), .bool true]) (by simp [results, Tryd.results73, go_sem]) rfl ⟨rfl, BB.out⟩
  · have hr : prodT (-(P : Int)) = (0, false) := if_neg (fun q => by have := q.1; have := q.2; omega)
    rw [hr]
    clear hr
    by_cases ch : P / 18446744073709551616 = 0
    · have h2 : P % 18446744073709551616 = P := by omega
      rw [ch, h2] at M
      have d1 : (9223372036854775808 : Int) < (P : Int) := by omega
      clear ch h2 c
      go_enter Tryd.func73, Tryd.ntmps73
      go_wp2_with fail
      refine M.out.mono ?_
      rintro e w1 ⟨rfl, rfl⟩
      clear M
      go_wp2_with fail
      all_goals exact bodyPost_ret (v := .tuple #[.int .i64 (0), .bool false]) (by simp [results, Tryd.results73, go_sem]) rfl ⟨rfl, BB.out⟩
    · generalize P / 18446744073709551616 = hi at *
      generalize P % 18446744073709551616 = lo at *
      have d1 : ¬ (hi : Int) = 0 := by omega
      have d2 : ((hi : Int) == 0) = false := by simp; omega
      clear ch c
      go_enter Tryd.func73, Tryd.ntmps73
      go_wp2_with fail
      refine M.out.mono ?_
      rintro e w1 ⟨rfl, rfl⟩
      clear M
      go_wp2_with fail
      all_goals exact bodyPost_ret (v := .tuple #[.int .i64 (0), .bool false]) (by simp [results, Tryd.results73, go_sem]) rfl ⟨rfl, BB.out⟩
set_option maxRecDepth 100000 in
theorem rprod_mp (A B P : Nat) (hA : 1 ≤ A ∧ A ≤ 9223372036854775808) (hB : B ≤ 9223372036854775807) (hP : A * B = P) (w : World) : Calls Tryd.prog 73 #[.int .i64 (-(A : Int)), .int .i64 ((B : Int))] w fun e w' => e = .returned (.tuple #[.int .i64 (prodT (-(P : Int))).1, .bool (prodT (-(P : Int))).2]) ∧ Below w.heap.size w w' := by
  have BB := hideR (Below.refl w.heap.size w)
  have M := hideR (Go.Proofs.Tryd.bits_Mul64 A B (by omega) (by omega) w)
  rw [hP] at M
  obtain ⟨xa, ea1, ea2⟩ := u64_back A hA.1 hA.2
  have a0 : -(A : Int) < 0 := by omega
  have a1 : (0 : Int) < (A : Int) := by omega
  have eb1 : IntKind.u64.wrap (B : Int) = (B : Int) := by rw [IntKind.wrap_u64]; omega
  have b0 : ¬ (B : Int) < 0 := by omega
  clear hP hA hB
  by_cases c : P ≤ 9223372036854775808
  · have hr : prodT (-(P : Int)) = (-(P : Int), true) := if_pos ⟨by omega, by omega⟩
    rw [hr]
    have h1 : P / 18446744073709551616 = 0 := by omega
    have h2 : P % 18446744073709551616 = P := by omega
    rw [h1, h2] at M
    have d1 : ¬ (9223372036854775808 : Int) < (P : Int) := by omega
    obtain ⟨z, z1, z2⟩ := neg_back P c
    by_cases ce : P = 9223372036854775808
    · subst ce
      have zz : wrap64 (IntKind.u64.wrap (-9223372036854775808)) = -9223372036854775808 := by rw [IntKind.wrap_u64]; unfold wrap64; omega
      clear h1 h2 hr c z1 z2 z
      go_enter Tryd.func73, Tryd.ntmps73
      go_wp2_with fail
      refine M.out.mono ?_
      rintro e w1 ⟨rfl, rfl⟩
      clear M
      go_wp2_with fail
      all_goals exact bodyPost_ret (v := .tuple #[.int .i64 (-9223372036854775808), .bool true]) (by simp [results, Tryd.results73, go_sem, zz]) rfl ⟨rfl, BB.out⟩
    · have d2 : ¬ (P : Int) = 9223372036854775808 := by omega
      have d3 : ((P : Int) == 9223372036854775808) = false := by simp; omega
      clear h1 h2 hr c
      go_enter Tryd.func73, Tryd.ntmps73
      go_wp2_with fail
      refine M.out.mono ?_
      rintro e w1 ⟨rfl, rfl⟩
      clear M
      go_wp2_with fail
      all_goals exact bodyPost_ret (v := .tuple #[.int .i64 (-(P : Int)), .bool true]) (by simp [results, Tryd.results73, go_sem]) rfl ⟨rfl, BB.out⟩
  · have hr : prodT (-(P : Int)) = (0, false) := if_neg (fun q => by have := q.1; have := q.2; omega)
    rw [hr]
    clear hr
    by_cases ch : P / 18446744073709551616 = 0
    · have h2 : P % 18446744073709551616 = P := by omega
      rw [ch, h2] at M
      have d1 : (9223372036854775808 : Int) < (P : Int) := by omega
      clear ch h2 c
      go_enter Tryd.func73, Tryd.ntmps73
      go_wp2_with fail
      refine M.out.mono ?_
      rintro e w1 ⟨rfl, rfl⟩
      clear M
      go_wp2_with fail
      all_goals exact bodyPost_ret (v := .tuple #[.int .i64 (0), .bool false]) (by simp [results, Tryd.results73, go_sem]) rfl ⟨rfl, BB.out⟩
    · generalize P / 18446744073709551616 = hi at *
      generalize P % 18446744073709551616 = lo at *
      have d1 : ¬ (hi : Int) = 0 := by omega
      have d2 : ((hi : Int) == 0) = false := by simp; omega
      clear ch c
      go_enter Tryd.func73, Tryd.ntmps73
      go_wp2_with fail
      refine M.out.mono ?_
      rintro e w1 ⟨rfl, rfl⟩
      clear M
      go_wp2_with fail
      all_goals exact bodyPost_ret (v := .tuple #[.int .i64 (0), .bool false]) (by simp [results, Tryd.results73, go_sem]) rfl ⟨rfl, BB.out⟩
set_option maxRecDepth 100000 in
theorem rprod_mm (A B P : Nat) (hA : 1 ≤ A ∧ A ≤ 9223372036854775808) (hB : 1 ≤ B ∧ B ≤ 9223372036854775808) (hP : A * B = P) (w : World) : Calls Tryd.prog 73 #[.int .i64 (-(A : Int)), .int .i64 (-(B : Int))] w fun e w' => e = .returned (.tuple #[.int .i64 (prodT ((P : Int))).1, .bool (prodT ((P : Int))).2]) ∧ Below w.heap.size w w' := by
  have BB := hideR (Below.refl w.heap.size w)
  have M := hideR (Go.Proofs.Tryd.bits_Mul64 A B (by omega) (by omega) w)
  rw [hP] at M
  obtain ⟨xa, ea1, ea2⟩ := u64_back A hA.1 hA.2
  have a0 : -(A : Int) < 0 := by omega
  have a1 : (0 : Int) < (A : Int) := by omega
  obtain ⟨xb, eb1, eb2⟩ := u64_back B hB.1 hB.2
  have b0 : -(B : Int) < 0 := by omega
  have b1 : (0 : Int) < (B : Int) := by omega
  clear hP hA hB
  by_cases c : P ≤ 9223372036854775807
  · have hr : prodT ((P : Int)) = ((P : Int), true) := if_pos ⟨by omega, by omega⟩
    rw [hr]
    have h1 : P / 18446744073709551616 = 0 := by omega
    have h2 : P % 18446744073709551616 = P := by omega
    rw [h1, h2] at M
    have d1 : ¬ (9223372036854775808 : Int) < (P : Int) := by omega
    have d2 : ¬ (P : Int) = 9223372036854775808 := by omega
    have d3 : ((P : Int) == 9223372036854775808) = false := by simp; omega
    have z1 : IntKind.i64.wrap (P : Int) = (P : Int) := by rw [IntKind.wrap_i64]; omega
    clear h1 h2 hr c
    go_enter Tryd.func73, Tryd.ntmps73
    go_wp2_with fail
    refine M.out.mono ?_
    rintro e w1 ⟨rfl, rfl⟩
    clear M
    go_wp2_with fail
    all_goals exact bodyPost_ret (v := .tuple #[.int .i64 ((P : Int)), .bool true]) (by simp [results, Tryd.results73, go_sem]) rfl ⟨rfl, BB.out⟩
  · have hr : prodT ((P : Int)) = (0, false) := if_neg (fun q => by have := q.1; have := q.2; omega)
    rw [hr]
    clear hr
    by_cases ch : P / 18446744073709551616 = 0
    · have h2 : P % 18446744073709551616 = P := by omega
      rw [ch, h2] at M
      by_cases ce : P = 9223372036854775808
      · subst ce
        clear ch h2 c
        go_enter Tryd.func73, Tryd.ntmps73
        go_wp2_with fail
        refine M.out.mono ?_
        rintro e w1 ⟨rfl, rfl⟩
        clear M
        go_wp2_with fail
        all_goals exact bodyPost_ret (v := .tuple #[.int .i64 (0), .bool false]) (by simp [results, Tryd.results73, go_sem]) rfl ⟨rfl, BB.out⟩
      · have d1 : (9223372036854775808 : Int) < (P : Int) := by omega
        clear ch h2 c ce
        go_enter Tryd.func73, Tryd.ntmps73
        go_wp2_with fail
        refine M.out.mono ?_
        rintro e w1 ⟨rfl, rfl⟩
        clear M
        go_wp2_with fail
        all_goals exact bodyPost_ret (v := .tuple #[.int .i64 (0), .bool false]) (by simp [results, Tryd.results73, go_sem]) rfl ⟨rfl, BB.out⟩
    · generalize P / 18446744073709551616 = hi at *
      generalize P % 18446744073709551616 = lo at *
      have d1 : ¬ (hi : Int) = 0 := by omega
      have d2 : ((hi : Int) == 0) = false := by simp; omega
      clear ch c
      go_enter Tryd.func73, Tryd.ntmps73
      go_wp2_with fail
      refine M.out.mono ?_
      rintro e w1 ⟨rfl, rfl⟩
      clear M
      go_wp2_with fail
      all_goals exact bodyPost_ret (v := .tuple #[.int .i64 (0), .bool false]) (by simp [results, Tryd.results73, go_sem]) rfl ⟨rfl, BB.out⟩
theorem rprod_any (a b : Int) (ha : inR a) (hb : inR b) (w : World) : Calls Tryd.prog 73 #[.int .i64 a, .int .i64 b] w fun e w' => e = .returned (.tuple #[.int .i64 (prodT (a * b)).1, .bool (prodT (a * b)).2]) ∧ Below w.heap.size w w' := by
  obtain ⟨ha0, ha1⟩ := ha
  obtain ⟨hb0, hb1⟩ := hb
  by_cases ca : a < 0
  · obtain ⟨A, hA⟩ := Int.eq_ofNat_of_zero_le (show 0 ≤ -a by omega)
    obtain rfl : a = -(A : Int) := by omega
    by_cases cb : b < 0
    · obtain ⟨B, hB⟩ := Int.eq_ofNat_of_zero_le (show 0 ≤ -b by omega)
      obtain rfl : b = -(B : Int) := by omega
      have := rprod_mm A B (A * B) ⟨by omega, by omega⟩ ⟨by omega, by omega⟩ rfl w
      rw [Int.neg_mul_neg, ← Int.natCast_mul]
      exact this
    · obtain ⟨B, rfl⟩ := Int.eq_ofNat_of_zero_le (show 0 ≤ b by omega)
      have := rprod_mp A B (A * B) ⟨by omega, by omega⟩ (by omega) rfl w
      rw [Int.neg_mul, ← Int.natCast_mul]
      exact this
  · obtain ⟨A, rfl⟩ := Int.eq_ofNat_of_zero_le (show 0 ≤ a by omega)
    by_cases cb : b < 0
    · obtain ⟨B, hB⟩ := Int.eq_ofNat_of_zero_le (show 0 ≤ -b by omega)
      obtain rfl : b = -(B : Int) := by omega
      have := rprod_pm A B (A * B) (by omega) ⟨by omega, by omega⟩ rfl w
      rw [Int.mul_neg, ← Int.natCast_mul]
      exact this
    · obtain ⟨B, rfl⟩ := Int.eq_ofNat_of_zero_le (show 0 ≤ b by omega)
      have := rprod_pp A B (A * B) (by omega) (by omega) rfl w
      rw [← Int.natCast_mul]
      exact this
end Go.Proofs.YtmnhbokiibaopaaDoor
