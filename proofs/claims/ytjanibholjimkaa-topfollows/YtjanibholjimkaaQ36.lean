/-
  The contracts of rat.termsOf, opposite, times, add, sign and Compare.
-/
import Derived.Test.YtjanibholjimkaaQ35
namespace Go.Proofs.Ytjanibholjimkaa
open Go.RowKit Go.Shelf
set_option linter.unusedVariables false

set_option maxRecDepth 100000 in
set_option maxHeartbeats 4000000 in
theorem times_raw (n d f a b : Int) (g : Bool) (w : World) (HP : Hid (∀ w, Calls Try.prog 47 #[.int .u64 n, .int .u64 f] w fun e w' => e = .returned (.agg #[.int .u64 a, .int .u64 b]) ∧ Below w.heap.size w w')) :
    Calls Try.prog 43 #[tv n d g, .int .u64 f] w fun e w' => e = .returned (.agg #[.int .u64 a, .int .u64 b, .bool g]) ∧ Below w.heap.size w w' := by
  go_enter Try.func43, Try.ntmps43
  go_wp2
  go_region_held3 (fun w' => w'.cell? ⟨w.heap.size, 0, none⟩ = some (.int .u64 n) ∧ w'.cell? ⟨w.heap.size, 2, none⟩ = some (.bool g))
    (first | exact ⟨by assumption, by assumption⟩ | go_keep)
    (first | (go_at_call 47; refine (HP.out _).mono ?_; rintro e w' ⟨rfl, hb⟩; have s0 := kc ⟨w.heap.size, 0, none⟩ (.int .u64 n) hb (by simp [go_sem]); have s2 := kc ⟨w.heap.size, 2, none⟩ (.bool g) hb (by simp [go_sem]); have f0 := kf ⟨w.heap.size + 1, 0, none⟩ (.int .u64 0) hb (by simp [go_sem]) (by simp [go_sem]); have f1 := kf ⟨w.heap.size + 1, 1, none⟩ (.int .u64 0) hb (by simp [go_sem]) (by simp [go_sem]); have f2 := kf ⟨w.heap.size + 1, 2, none⟩ (.bool false) hb (by simp [go_sem]) (by simp [go_sem]); have c0 := kc ⟨w.heap.size + 1, 0, none⟩ (.int .u64 0) hb (by simp [go_sem]); have c1 := kc ⟨w.heap.size + 1, 1, none⟩ (.int .u64 0) hb (by simp [go_sem]); have c2 := kc ⟨w.heap.size + 1, 2, none⟩ (.bool false) hb (by simp [go_sem]); have hB := beyond (two w _ _).drew hb))
  go_wp2
  refine bodyPost_ret (v := .agg #[.int .u64 a, .int .u64 b, .bool g]) (by simp [results, Try.results43, go_sem, *]) rfl ⟨rfl, ?_⟩
  exact set3 (by assumption) (Nat.le_succ _) _ _ _

set_option maxRecDepth 100000 in
set_option maxHeartbeats 4000000 in
theorem termsOf_raw (n d a b : Int) (g : Bool) (w : World) (hg : decide (n < 0) = g)
    (HSn : Hid (∀ w, Calls Try.prog 23 #[.int .i64 n] w fun e w' => e = .returned (.int .u64 a) ∧ w' = w))
    (HSd : Hid (∀ w, Calls Try.prog 23 #[.int .i64 d] w fun e w' => e = .returned (.int .u64 b) ∧ w' = w)) :
    Calls Try.prog 25 #[rv n d] w fun e w' => e = .returned (tv a b g) ∧ Below w.heap.size w w' := by
  go_enter Try.func25, Try.ntmps25
  go_wp2
  go_region_held3 (fun w' => w'.cell? ⟨w.heap.size, 0, none⟩ = some (.int .i64 n) ∧ w'.cell? ⟨w.heap.size, 1, none⟩ = some (.int .i64 d))
    (first | exact ⟨by assumption, by assumption⟩ | go_keep)
    (first | (go_at_call_of 23 (n); refine (HSn.out _).mono ?_; rintro e w' ⟨rfl, rfl⟩) | (go_at_call 23; refine (HSd.out _).mono ?_; rintro e w' ⟨rfl, rfl⟩))
  all_goals
    go_wp2
    refine bodyPost_ret (v := tv a b g) (by simp [results, Try.results25, go_sem, *]) rfl ⟨rfl, ?_⟩
    first | exact (two w _ _).drew | exact below_drewN (two w _ _) _ | exact set3 (two w _ _).drew (Nat.le_succ _) _ _ _
theorem termsOf_any (n d : Int) (w : World) (n0 : -9223372036854775808 ≤ n) (n1 : n ≤ 9223372036854775807) (d0 : -9223372036854775808 ≤ d) (d1 : d ≤ 9223372036854775807) :
    Calls Try.prog 25 #[rv n d] w fun e w' => e = .returned (tv (sz n) (sz d) (decide (n < 0))) ∧ Below w.heap.size w w' :=
  termsOf_raw n d _ _ _ w rfl (fun w => size_any n w n0 n1) (fun w => size_any d w d0 d1)
theorem opposite_any (n d : Int) (g : Bool) (w : World) :
    Calls Try.prog 32 #[tv n d g] w fun e w' => e = .returned (tv n d (!g)) ∧ Below w.heap.size w w' := by
  go_enter Try.func32, Try.ntmps32
  go_wp2
  refine bodyPost_ret (v := tv n d (!g)) (by simp [results, Try.results32, go_sem]) rfl ⟨rfl, ?_⟩
  first | exact two w _ _ | exact three w _ _ _ | exact single w _
theorem times_any (n d f : Int) (g : Bool) (w : World) (hn : U64 n) (hf : U64 f) :
    Calls Try.prog 43 #[tv n d g, .int .u64 f] w fun e w' => e = .returned (sv (n * f) g) ∧ Below w.heap.size w w' :=
  times_raw n d f _ _ g w (fun w => product_any n f w hn hf)

/-! ### add -/
set_option maxRecDepth 100000 in
set_option maxHeartbeats 4000000 in
theorem add_same (a b c d p q : Int) (g h : Bool) (w : World) (hs : (g == h) = true)
    (HP : Hid (∀ w, Calls Try.prog 58 #[.agg #[.int .u64 a, .int .u64 b], .agg #[.int .u64 c, .int .u64 d]] w fun e w' => e = .returned (.agg #[.int .u64 p, .int .u64 q]) ∧ Below w.heap.size w w')) :
    Calls Try.prog 44 #[.agg #[.int .u64 a, .int .u64 b, .bool g], .agg #[.int .u64 c, .int .u64 d, .bool h]] w fun e w' => e = .returned (.agg #[.int .u64 p, .int .u64 q, .bool g]) ∧ Below w.heap.size w w' := by
  have n1 : ¬ w.heap.size = w.heap.size + 1 + 1 := by omega
  have n2 : ¬ w.heap.size + 1 + 1 = w.heap.size := by omega
  go_enter Try.func44, Try.ntmps44
  go_wp2_with fail
  go_region_held3 (fun w' => w'.cell? ⟨w.heap.size, 0, none⟩ = some (.int .u64 a) ∧ w'.cell? ⟨w.heap.size, 1, none⟩ = some (.int .u64 b) ∧ w'.cell? ⟨w.heap.size, 2, none⟩ = some (.bool g) ∧ w'.cell? ⟨w.heap.size + 1, 0, none⟩ = some (.int .u64 c) ∧ w'.cell? ⟨w.heap.size + 1, 1, none⟩ = some (.int .u64 d) ∧ w'.cell? ⟨w.heap.size + 1, 2, none⟩ = some (.bool h))
    (first | exact ⟨by assumption, by assumption, by assumption, by assumption, by assumption, by assumption⟩ | go_keep)
    (first | (go_at_call 58; refine (HP.out _).mono ?_; rintro e w' ⟨rfl, hb⟩; have s0 := kc ⟨w.heap.size, 0, none⟩ (.int .u64 a) hb (by first | assumption | simp [go_sem, *]); have s1 := kc ⟨w.heap.size, 1, none⟩ (.int .u64 b) hb (by first | assumption | simp [go_sem, *]); have s2 := kc ⟨w.heap.size, 2, none⟩ (.bool g) hb (by first | assumption | simp [go_sem, *]); have s3 := kc ⟨w.heap.size + 1, 0, none⟩ (.int .u64 c) hb (by first | assumption | simp [go_sem, *]); have s4 := kc ⟨w.heap.size + 1, 1, none⟩ (.int .u64 d) hb (by first | assumption | simp [go_sem, *]); have s5 := kc ⟨w.heap.size + 1, 2, none⟩ (.bool h) hb (by first | assumption | simp [go_sem, *]); have s6 := kc ⟨w.heap.size + 1 + 1, 0, none⟩ (.int .u64 0) hb (by first | assumption | simp [go_sem, *]); have s7 := kc ⟨w.heap.size + 1 + 1, 1, none⟩ (.int .u64 0) hb (by first | assumption | simp [go_sem, *]); have s8 := kc ⟨w.heap.size + 1 + 1, 2, none⟩ (.bool false) hb (by first | assumption | simp [go_sem, *]); have s9 := kf ⟨w.heap.size + 1 + 1, 0, none⟩ (.int .u64 0) hb (by first | assumption | simp [go_sem, *]) (by first | assumption | simp [go_sem, *]); have s10 := kf ⟨w.heap.size + 1 + 1, 1, none⟩ (.int .u64 0) hb (by first | assumption | simp [go_sem, *]) (by first | assumption | simp [go_sem, *]); have s11 := kf ⟨w.heap.size + 1 + 1, 2, none⟩ (.bool false) hb (by first | assumption | simp [go_sem, *]) (by first | assumption | simp [go_sem, *]); have hB := beyond (by first | assumption | exact Below.drew (three w _ _ _) | exact Below.drew (by assumption) | exact below_drewN (three w _ _ _) _ | exact three w _ _ _) hb))
  all_goals
    go_wp2
    refine bodyPost_ret (v := .agg #[.int .u64 p, .int .u64 q, .bool g]) (by simp [results, Try.results44, go_sem, *]) rfl ⟨rfl, ?_⟩
    exact set3 (by assumption) (by omega) _ _ _
set_option maxRecDepth 100000 in
set_option maxHeartbeats 4000000 in
theorem add_less (a b c d p q : Int) (g h : Bool) (w : World) (hs : (g == h) = false)
    (HQ : Hid (∀ w, Calls Try.prog 59 #[.agg #[.int .u64 a, .int .u64 b], .agg #[.int .u64 c, .int .u64 d]] w fun e w' => e = .returned (.bool true) ∧ Below w.heap.size w w'))
    (HP : Hid (∀ w, Calls Try.prog 60 #[.agg #[.int .u64 c, .int .u64 d], .agg #[.int .u64 a, .int .u64 b]] w fun e w' => e = .returned (.agg #[.int .u64 p, .int .u64 q]) ∧ Below w.heap.size w w')) :
    Calls Try.prog 44 #[.agg #[.int .u64 a, .int .u64 b, .bool g], .agg #[.int .u64 c, .int .u64 d, .bool h]] w fun e w' => e = .returned (.agg #[.int .u64 p, .int .u64 q, .bool h]) ∧ Below w.heap.size w w' := by
  have n1 : ¬ w.heap.size = w.heap.size + 1 + 1 := by omega
  have n2 : ¬ w.heap.size + 1 + 1 = w.heap.size := by omega
  go_enter Try.func44, Try.ntmps44
  go_wp2_with fail
  refine (HQ.out _).mono ?_
  rintro e w1 ⟨rfl, hb⟩
  have s0 := kc ⟨w.heap.size, 0, none⟩ (.int .u64 a) hb (by first | assumption | simp [go_sem, *])
  have s1 := kc ⟨w.heap.size, 1, none⟩ (.int .u64 b) hb (by first | assumption | simp [go_sem, *])
  have s2 := kc ⟨w.heap.size, 2, none⟩ (.bool g) hb (by first | assumption | simp [go_sem, *])
  have s3 := kc ⟨w.heap.size + 1, 0, none⟩ (.int .u64 c) hb (by first | assumption | simp [go_sem, *])
  have s4 := kc ⟨w.heap.size + 1, 1, none⟩ (.int .u64 d) hb (by first | assumption | simp [go_sem, *])
  have s5 := kc ⟨w.heap.size + 1, 2, none⟩ (.bool h) hb (by first | assumption | simp [go_sem, *])
  have s6 := kc ⟨w.heap.size + 1 + 1, 0, none⟩ (.int .u64 0) hb (by first | assumption | simp [go_sem, *])
  have s7 := kc ⟨w.heap.size + 1 + 1, 1, none⟩ (.int .u64 0) hb (by first | assumption | simp [go_sem, *])
  have s8 := kc ⟨w.heap.size + 1 + 1, 2, none⟩ (.bool false) hb (by first | assumption | simp [go_sem, *])
  have s9 := kf ⟨w.heap.size + 1 + 1, 0, none⟩ (.int .u64 0) hb (by first | assumption | simp [go_sem, *]) (by first | assumption | simp [go_sem, *])
  have s10 := kf ⟨w.heap.size + 1 + 1, 1, none⟩ (.int .u64 0) hb (by first | assumption | simp [go_sem, *]) (by first | assumption | simp [go_sem, *])
  have s11 := kf ⟨w.heap.size + 1 + 1, 2, none⟩ (.bool false) hb (by first | assumption | simp [go_sem, *]) (by first | assumption | simp [go_sem, *])
  have hB := beyond (by first | assumption | exact Below.drew (three w _ _ _) | exact Below.drew (by assumption) | exact below_drewN (three w _ _ _) _ | exact three w _ _ _) hb
  clear hb
  go_wp2_with fail
  go_region_held3 (fun w' => w'.cell? ⟨w.heap.size, 0, none⟩ = some (.int .u64 a) ∧ w'.cell? ⟨w.heap.size, 1, none⟩ = some (.int .u64 b) ∧ w'.cell? ⟨w.heap.size, 2, none⟩ = some (.bool g) ∧ w'.cell? ⟨w.heap.size + 1, 0, none⟩ = some (.int .u64 c) ∧ w'.cell? ⟨w.heap.size + 1, 1, none⟩ = some (.int .u64 d) ∧ w'.cell? ⟨w.heap.size + 1, 2, none⟩ = some (.bool h))
    (first | exact ⟨by assumption, by assumption, by assumption, by assumption, by assumption, by assumption⟩ | go_keep)
    (first | (go_at_call 60; refine (HP.out _).mono ?_; rintro e w' ⟨rfl, hb⟩; have s0 := kc ⟨w.heap.size, 0, none⟩ (.int .u64 a) hb (by first | assumption | simp [go_sem, *]); have s1 := kc ⟨w.heap.size, 1, none⟩ (.int .u64 b) hb (by first | assumption | simp [go_sem, *]); have s2 := kc ⟨w.heap.size, 2, none⟩ (.bool g) hb (by first | assumption | simp [go_sem, *]); have s3 := kc ⟨w.heap.size + 1, 0, none⟩ (.int .u64 c) hb (by first | assumption | simp [go_sem, *]); have s4 := kc ⟨w.heap.size + 1, 1, none⟩ (.int .u64 d) hb (by first | assumption | simp [go_sem, *]); have s5 := kc ⟨w.heap.size + 1, 2, none⟩ (.bool h) hb (by first | assumption | simp [go_sem, *]); have s6 := kc ⟨w.heap.size + 1 + 1, 0, none⟩ (.int .u64 0) hb (by first | assumption | simp [go_sem, *]); have s7 := kc ⟨w.heap.size + 1 + 1, 1, none⟩ (.int .u64 0) hb (by first | assumption | simp [go_sem, *]); have s8 := kc ⟨w.heap.size + 1 + 1, 2, none⟩ (.bool false) hb (by first | assumption | simp [go_sem, *]); have s9 := kf ⟨w.heap.size + 1 + 1, 0, none⟩ (.int .u64 0) hb (by first | assumption | simp [go_sem, *]) (by first | assumption | simp [go_sem, *]); have s10 := kf ⟨w.heap.size + 1 + 1, 1, none⟩ (.int .u64 0) hb (by first | assumption | simp [go_sem, *]) (by first | assumption | simp [go_sem, *]); have s11 := kf ⟨w.heap.size + 1 + 1, 2, none⟩ (.bool false) hb (by first | assumption | simp [go_sem, *]) (by first | assumption | simp [go_sem, *]); have hB := beyond (by first | assumption | exact Below.drew (three w _ _ _) | exact Below.drew (by assumption) | exact below_drewN (three w _ _ _) _ | exact three w _ _ _) hb))
  all_goals
    go_wp2
    refine bodyPost_ret (v := .agg #[.int .u64 p, .int .u64 q, .bool h]) (by simp [results, Try.results44, go_sem, *]) rfl ⟨rfl, ?_⟩
    exact set3 (by assumption) (by omega) _ _ _
set_option maxRecDepth 100000 in
set_option maxHeartbeats 4000000 in
theorem add_more (a b c d p q : Int) (g h : Bool) (w : World) (hs : (g == h) = false)
    (HQ : Hid (∀ w, Calls Try.prog 59 #[.agg #[.int .u64 a, .int .u64 b], .agg #[.int .u64 c, .int .u64 d]] w fun e w' => e = .returned (.bool false) ∧ Below w.heap.size w w'))
    (HP : Hid (∀ w, Calls Try.prog 60 #[.agg #[.int .u64 a, .int .u64 b], .agg #[.int .u64 c, .int .u64 d]] w fun e w' => e = .returned (.agg #[.int .u64 p, .int .u64 q]) ∧ Below w.heap.size w w')) :
    Calls Try.prog 44 #[.agg #[.int .u64 a, .int .u64 b, .bool g], .agg #[.int .u64 c, .int .u64 d, .bool h]] w fun e w' => e = .returned (.agg #[.int .u64 p, .int .u64 q, .bool g]) ∧ Below w.heap.size w w' := by
  have n1 : ¬ w.heap.size = w.heap.size + 1 + 1 := by omega
  have n2 : ¬ w.heap.size + 1 + 1 = w.heap.size := by omega
  go_enter Try.func44, Try.ntmps44
  go_wp2_with fail
  refine (HQ.out _).mono ?_
  rintro e w1 ⟨rfl, hb⟩
  have s0 := kc ⟨w.heap.size, 0, none⟩ (.int .u64 a) hb (by first | assumption | simp [go_sem, *])
  have s1 := kc ⟨w.heap.size, 1, none⟩ (.int .u64 b) hb (by first | assumption | simp [go_sem, *])
  have s2 := kc ⟨w.heap.size, 2, none⟩ (.bool g) hb (by first | assumption | simp [go_sem, *])
  have s3 := kc ⟨w.heap.size + 1, 0, none⟩ (.int .u64 c) hb (by first | assumption | simp [go_sem, *])
  have s4 := kc ⟨w.heap.size + 1, 1, none⟩ (.int .u64 d) hb (by first | assumption | simp [go_sem, *])
  have s5 := kc ⟨w.heap.size + 1, 2, none⟩ (.bool h) hb (by first | assumption | simp [go_sem, *])
  have s6 := kc ⟨w.heap.size + 1 + 1, 0, none⟩ (.int .u64 0) hb (by first | assumption | simp [go_sem, *])
  have s7 := kc ⟨w.heap.size + 1 + 1, 1, none⟩ (.int .u64 0) hb (by first | assumption | simp [go_sem, *])
  have s8 := kc ⟨w.heap.size + 1 + 1, 2, none⟩ (.bool false) hb (by first | assumption | simp [go_sem, *])
  have s9 := kf ⟨w.heap.size + 1 + 1, 0, none⟩ (.int .u64 0) hb (by first | assumption | simp [go_sem, *]) (by first | assumption | simp [go_sem, *])
  have s10 := kf ⟨w.heap.size + 1 + 1, 1, none⟩ (.int .u64 0) hb (by first | assumption | simp [go_sem, *]) (by first | assumption | simp [go_sem, *])
  have s11 := kf ⟨w.heap.size + 1 + 1, 2, none⟩ (.bool false) hb (by first | assumption | simp [go_sem, *]) (by first | assumption | simp [go_sem, *])
  have hB := beyond (by first | assumption | exact Below.drew (three w _ _ _) | exact Below.drew (by assumption) | exact below_drewN (three w _ _ _) _ | exact three w _ _ _) hb
  clear hb
  go_wp2_with fail
  go_region_held3 (fun w' => w'.cell? ⟨w.heap.size, 0, none⟩ = some (.int .u64 a) ∧ w'.cell? ⟨w.heap.size, 1, none⟩ = some (.int .u64 b) ∧ w'.cell? ⟨w.heap.size, 2, none⟩ = some (.bool g) ∧ w'.cell? ⟨w.heap.size + 1, 0, none⟩ = some (.int .u64 c) ∧ w'.cell? ⟨w.heap.size + 1, 1, none⟩ = some (.int .u64 d) ∧ w'.cell? ⟨w.heap.size + 1, 2, none⟩ = some (.bool h))
    (first | exact ⟨by assumption, by assumption, by assumption, by assumption, by assumption, by assumption⟩ | go_keep)
    (first | (go_at_call 60; refine (HP.out _).mono ?_; rintro e w' ⟨rfl, hb⟩; have s0 := kc ⟨w.heap.size, 0, none⟩ (.int .u64 a) hb (by first | assumption | simp [go_sem, *]); have s1 := kc ⟨w.heap.size, 1, none⟩ (.int .u64 b) hb (by first | assumption | simp [go_sem, *]); have s2 := kc ⟨w.heap.size, 2, none⟩ (.bool g) hb (by first | assumption | simp [go_sem, *]); have s3 := kc ⟨w.heap.size + 1, 0, none⟩ (.int .u64 c) hb (by first | assumption | simp [go_sem, *]); have s4 := kc ⟨w.heap.size + 1, 1, none⟩ (.int .u64 d) hb (by first | assumption | simp [go_sem, *]); have s5 := kc ⟨w.heap.size + 1, 2, none⟩ (.bool h) hb (by first | assumption | simp [go_sem, *]); have s6 := kc ⟨w.heap.size + 1 + 1, 0, none⟩ (.int .u64 0) hb (by first | assumption | simp [go_sem, *]); have s7 := kc ⟨w.heap.size + 1 + 1, 1, none⟩ (.int .u64 0) hb (by first | assumption | simp [go_sem, *]); have s8 := kc ⟨w.heap.size + 1 + 1, 2, none⟩ (.bool false) hb (by first | assumption | simp [go_sem, *]); have s9 := kf ⟨w.heap.size + 1 + 1, 0, none⟩ (.int .u64 0) hb (by first | assumption | simp [go_sem, *]) (by first | assumption | simp [go_sem, *]); have s10 := kf ⟨w.heap.size + 1 + 1, 1, none⟩ (.int .u64 0) hb (by first | assumption | simp [go_sem, *]) (by first | assumption | simp [go_sem, *]); have s11 := kf ⟨w.heap.size + 1 + 1, 2, none⟩ (.bool false) hb (by first | assumption | simp [go_sem, *]) (by first | assumption | simp [go_sem, *]); have hB := beyond (by first | assumption | exact Below.drew (three w _ _ _) | exact Below.drew (by assumption) | exact below_drewN (three w _ _ _) _ | exact three w _ _ _) hb))
  all_goals
    go_wp2
    refine bodyPost_ret (v := .agg #[.int .u64 p, .int .u64 q, .bool g]) (by simp [results, Try.results44, go_sem, *]) rfl ⟨rfl, ?_⟩
    exact set3 (by assumption) (by omega) _ _ _
end Go.Proofs.Ytjanibholjimkaa
