/-
  The walk of the statement TopNumbers.
-/
import Derived.Test.YtacgkbmhklfcaabTn1
namespace Go.Proofs.Ytacgkbmhklfcaab
open Go.RowKit Go.Shelf
set_option linter.unusedVariables false
theorem which_any (n : Int) (w : World) (h : I64 n) : Calls Try.prog 5 #[.int .i64 n, .int .i64 1000] w fun e w' => e = .returned (.int .i64 (n % 1000)) ∧ w' = w := by
  obtain ⟨h0, h1⟩ := h
  have t0 : -1000 < n.tmod 1000 := Int.lt_tmod_of_pos n (by decide)
  have t1 : n.tmod 1000 < 1000 := Int.tmod_lt_of_pos n (by decide)
  have t2 : n.tmod 1000 = n % 1000 ∨ n.tmod 1000 = n % 1000 - 1000 := by
    by_cases c : 0 ≤ n
    · left; exact Int.tmod_eq_emod_of_nonneg c
    · by_cases d : n.tmod 1000 < 0
      · right
        have := (floor_neg n 1000 (by decide) d)
        have a := Int.mul_tdiv_add_tmod n 1000
        have b := Int.mul_ediv_add_emod n 1000
        omega
      · left
        exact (floor_pos n 1000 (by decide) (by omega)).2.symm
  have m0 := Int.emod_nonneg n (show (1000 : Int) ≠ 0 by decide)
  generalize hm : n % 1000 = m at *
  generalize ht : n.tmod 1000 = t at *
  by_cases c : t < 0
  · go_enter Try.func5, Try.ntmps5
    go_wp2
    go_ret
    exact ⟨retI (by omega), rfl⟩
  · go_enter Try.func5, Try.ntmps5
    go_wp2
    go_ret
    exact ⟨retI (by omega), rfl⟩
set_option maxRecDepth 100000 in
set_option maxHeartbeats 4000000 in
theorem top_raw (v u an ad bn bd m k x y : Int) (w : World) (m0 : 0 ≤ m) (m1 : m < 1000) (k0 : 0 ≤ k) (k1 : k < 1000)
    (W1 : Hid (∀ w, Calls Try.prog 5 #[.int .i64 v, .int .i64 1000] w fun e w' => e = .returned (.int .i64 m) ∧ w' = w))
    (W2 : Hid (∀ w, Calls Try.prog 5 #[.int .i64 u, .int .i64 1000] w fun e w' => e = .returned (.int .i64 k) ∧ w' = w))
    (X1 : Hid (∀ w, Calls Try.prog 4 #[.int .i64 (m - 500)] w fun e w' => e = .returned (.tuple #[.int .i32 x, .int .i64 0]) ∧ w' = w))
    (Y1 : Hid (∀ w, Calls Try.prog 6 #[.int .i64 (k - 500)] w fun e w' => e = .returned (.tuple #[.int .i32 y, .int .i64 0]) ∧ w' = w))
    (ex : x = 2 * (m - 500) + 1) (RA : Hid (AskR an ad true)) (RB : Hid (AskR bn bd true)) (cp cq : Int) (P Q : Bool) (hP : decide (cp ≤ 0) = P) (hQ : decide (cq < 0) = Q)
    (O1 : Hid (∀ w, Calls Try.prog 9 #[.int .i64 (m - 500)] w fun e w' => e = .returned (rv (m - 500) 1) ∧ Below w.heap.size w w'))
    (O2 : Hid (∀ w, Calls Try.prog 9 #[.int .i64 (k - 500)] w fun e w' => e = .returned (rv (k - 500) 1) ∧ Below w.heap.size w w'))
    (C1 : Hid (∀ w, Calls Try.prog 8 #[rv an ad, rv (m - 500) 1] w fun e w' => e = .returned (.int .i64 cp) ∧ Below w.heap.size w w'))
    (C2 : Hid (∀ w, Calls Try.prog 8 #[rv bn bd, rv (k - 500) 1] w fun e w' => e = .returned (.int .i64 cq) ∧ Below w.heap.size w w'))
    (H1 : Hid (∀ w, Calls Try.prog 10 #[.int .i32 (2 * (m - 500) + 1), .int .i64 an, .int .i64 ad] w fun e w' => e = .returned (.bool P) ∧ Below w.heap.size w w'))
    (H2 : Hid (∀ w, Calls Try.prog 10 #[.int .i32 y, .int .i64 bn, .int .i64 bd] w fun e w' => e = .returned (.bool Q) ∧ Below w.heap.size w w'))
    (sn sd sg z : Int)
    (AA : Hid (∀ w, Calls Try.prog 11 #[rv an ad, rv bn bd] w fun e w' => e = .returned (.tuple #[rv sn sd, .int .i64 sg]) ∧ Below w.heap.size w w'))
    (BA : Hid (∀ w, Calls Try.prog 12 #[.int .i32 (2 * (m - 500) + 1), .int .i32 y] w fun e w' => e = .returned (.tuple #[.int .i32 z, .int .i64 0]) ∧ Below w.heap.size w w'))
    (H3 : Hid (P = true → Q = true → sg = 0 → ∀ w, Calls Try.prog 10 #[.int .i32 z, .int .i64 sn, .int .i64 sd] w fun e w' => e = .returned (.bool true) ∧ Below w.heap.size w w')) :
    Calls Try.prog 3 #[.agg #[.int .i64 v, .int .i64 u], rv an ad, rv bn bd] w fun e w' => e = .returned (.bool true) ∧ Below w.heap.size w w' := by
  have w1 : IntKind.i64.wrap (m - 500) = m - 500 := by rw [IntKind.wrap_i64]; omega
  have w2 : IntKind.i64.wrap (k - 500) = k - 500 := by rw [IntKind.wrap_i64]; omega
  have w3 : wrap64 (m - 500) = m - 500 := by unfold wrap64; omega
  have w4 : wrap64 (k - 500) = k - 500 := by unfold wrap64; omega
  go_enter Try.func3, Try.ntmps3
  go_wp2_with fail
  go_quiet (fail)
  have B0 : Below w.heap.size w (((w.alloc (.cells #[.int .i64 v, .int .i64 u] 22)).alloc (.cells #[.int .i64 an, .int .i64 ad] 24)).alloc (.cells #[.int .i64 bn, .int .i64 bd] 24)) := three w _ _ _
  have c0 : (((w.alloc (.cells #[.int .i64 v, .int .i64 u] 22)).alloc (.cells #[.int .i64 an, .int .i64 ad] 24)).alloc (.cells #[.int .i64 bn, .int .i64 bd] 24)).cell? ⟨w.heap.size + 1, 0, none⟩ = some (.int .i64 an) := by simp [go_sem]
  have c1 : (((w.alloc (.cells #[.int .i64 v, .int .i64 u] 22)).alloc (.cells #[.int .i64 an, .int .i64 ad] 24)).alloc (.cells #[.int .i64 bn, .int .i64 bd] 24)).cell? ⟨w.heap.size + 1, 1, none⟩ = some (.int .i64 ad) := by simp [go_sem]
  have c2 : (((w.alloc (.cells #[.int .i64 v, .int .i64 u] 22)).alloc (.cells #[.int .i64 an, .int .i64 ad] 24)).alloc (.cells #[.int .i64 bn, .int .i64 bd] 24)).cell? ⟨w.heap.size + 1 + 1, 0, none⟩ = some (.int .i64 bn) := by simp [go_sem]
  have c3 : (((w.alloc (.cells #[.int .i64 v, .int .i64 u] 22)).alloc (.cells #[.int .i64 an, .int .i64 ad] 24)).alloc (.cells #[.int .i64 bn, .int .i64 bd] 24)).cell? ⟨w.heap.size + 1 + 1, 1, none⟩ = some (.int .i64 bd) := by simp [go_sem]
  generalize ((w.alloc (.cells #[.int .i64 v, .int .i64 u] 22)).alloc (.cells #[.int .i64 an, .int .i64 ad] 24)).alloc (.cells #[.int .i64 bn, .int .i64 bd] 24) = W at *
  have HB := hideR B0
  clear B0
  go_wp2_with fail
  refine (W1.out _).mono ?_
  rintro e w' ⟨rfl, rfl⟩
  go_wp2_with fail
  refine (X1.out _).mono ?_
  rintro e w' ⟨rfl, rfl⟩
  go_wp2_with fail
  refine (W2.out _).mono ?_
  rintro e w' ⟨rfl, rfl⟩
  go_wp2_with fail
  refine (Y1.out _).mono ?_
  rintro e w' ⟨rfl, rfl⟩
  go_wp2_with fail
  refine (W1.out _).mono ?_
  rintro e w' ⟨rfl, rfl⟩
  go_wp2_with fail
  refine (RA.out _).mono ?_
  rintro e w1 ⟨rfl, hb⟩
  have d0 := kc _ _ hb c0
  have d1 := kc _ _ hb c1
  have d2 := kc _ _ hb c2
  have d3 := kc _ _ hb c3
  have HB1 := hideR (beyond (below_drewN HB.out _) hb)
  clear hb c0 c1 c2 c3 HB
  go_wp2_with fail
  refine (RB.out _).mono ?_
  rintro e w2 ⟨rfl, hb⟩
  have c0 := kc _ _ hb d0
  have c1 := kc _ _ hb d1
  have c2 := kc _ _ hb d2
  have c3 := kc _ _ hb d3
  have HB2 := hideR (beyond HB1.out hb)
  clear hb d0 d1 d2 d3 HB1 ex
  have HB2B := HB2.out
  go_upto_region 8 with (fail)
  go_cut [13] (fun t w' => t = .bool P ∧ w'.cell? ⟨w.heap.size + 1, 0, none⟩ = some (.int .i64 an) ∧ w'.cell? ⟨w.heap.size + 1, 1, none⟩ = some (.int .i64 ad) ∧ w'.cell? ⟨w.heap.size + 1 + 1, 0, none⟩ = some (.int .i64 bn) ∧ w'.cell? ⟨w.heap.size + 1 + 1, 1, none⟩ = some (.int .i64 bd) ∧ Below w.heap.size w w')
  case first =>
    go_region_held3 (fun w' => w'.cell? ⟨w.heap.size + 1, 0, none⟩ = some (.int .i64 an) ∧ w'.cell? ⟨w.heap.size + 1, 1, none⟩ = some (.int .i64 ad) ∧ w'.cell? ⟨w.heap.size + 1 + 1, 0, none⟩ = some (.int .i64 bn) ∧ w'.cell? ⟨w.heap.size + 1 + 1, 1, none⟩ = some (.int .i64 bd) ∧ Below w.heap.size w w')
      (first | exact ⟨by assumption, by assumption, by assumption, by assumption, by first | assumption | exact Below.drew (by assumption)⟩ | go_keep)
      (first
        | (go_at_call 5; refine (W1.out _).mono ?_; rintro e w' ⟨rfl, rfl⟩)
        | (go_at_call 9; refine (O1.out _).mono ?_; rintro e w' ⟨rfl, hb⟩; have v0 := kc ⟨w.heap.size + 1, 0, none⟩ (.int .i64 an) hb (by first | assumption | simp [go_sem, *]); have v1 := kc ⟨w.heap.size + 1, 1, none⟩ (.int .i64 ad) hb (by first | assumption | simp [go_sem, *]); have v2 := kc ⟨w.heap.size + 1 + 1, 0, none⟩ (.int .i64 bn) hb (by first | assumption | simp [go_sem, *]); have v3 := kc ⟨w.heap.size + 1 + 1, 1, none⟩ (.int .i64 bd) hb (by first | assumption | simp [go_sem, *]); have hX := beyond (w := w) (by first | assumption | exact Below.drew (by assumption)) hb)
        | (go_at_call 8; refine (C1.out _).mono ?_; rintro e w' ⟨rfl, hb⟩; have v0 := kc ⟨w.heap.size + 1, 0, none⟩ (.int .i64 an) hb (by first | assumption | simp [go_sem, *]); have v1 := kc ⟨w.heap.size + 1, 1, none⟩ (.int .i64 ad) hb (by first | assumption | simp [go_sem, *]); have v2 := kc ⟨w.heap.size + 1 + 1, 0, none⟩ (.int .i64 bn) hb (by first | assumption | simp [go_sem, *]); have v3 := kc ⟨w.heap.size + 1 + 1, 1, none⟩ (.int .i64 bd) hb (by first | assumption | simp [go_sem, *]); have hX := beyond (w := w) (by first | assumption | exact Below.drew (by assumption)) hb))
    all_goals go_wp2_with fail
    all_goals go_meet
    all_goals exact ⟨by first | rfl | simp [*], by assumption, by assumption, by assumption, by assumption, by assumption⟩
  case rest =>
    obtain ⟨rfl, c0, c1, c2, c3, HB3⟩ := hcut
    go_upto_region 9 with (fail)
    go_cut [14] (fun t w' => t = .bool Q ∧ w'.cell? ⟨w.heap.size + 1, 0, none⟩ = some (.int .i64 an) ∧ w'.cell? ⟨w.heap.size + 1, 1, none⟩ = some (.int .i64 ad) ∧ w'.cell? ⟨w.heap.size + 1 + 1, 0, none⟩ = some (.int .i64 bn) ∧ w'.cell? ⟨w.heap.size + 1 + 1, 1, none⟩ = some (.int .i64 bd) ∧ Below w.heap.size w w')
    case first =>
      go_region_held3 (fun w' => w'.cell? ⟨w.heap.size + 1, 0, none⟩ = some (.int .i64 an) ∧ w'.cell? ⟨w.heap.size + 1, 1, none⟩ = some (.int .i64 ad) ∧ w'.cell? ⟨w.heap.size + 1 + 1, 0, none⟩ = some (.int .i64 bn) ∧ w'.cell? ⟨w.heap.size + 1 + 1, 1, none⟩ = some (.int .i64 bd) ∧ Below w.heap.size w w')
        (first | exact ⟨by assumption, by assumption, by assumption, by assumption, by first | assumption | exact Below.drew (by assumption)⟩ | go_keep)
        (first
          | (go_at_call 5; refine (W2.out _).mono ?_; rintro e w' ⟨rfl, rfl⟩)
          | (go_at_call 9; refine (O2.out _).mono ?_; rintro e w' ⟨rfl, hb⟩; have v0 := kc ⟨w.heap.size + 1, 0, none⟩ (.int .i64 an) hb (by first | assumption | simp [go_sem, *]); have v1 := kc ⟨w.heap.size + 1, 1, none⟩ (.int .i64 ad) hb (by first | assumption | simp [go_sem, *]); have v2 := kc ⟨w.heap.size + 1 + 1, 0, none⟩ (.int .i64 bn) hb (by first | assumption | simp [go_sem, *]); have v3 := kc ⟨w.heap.size + 1 + 1, 1, none⟩ (.int .i64 bd) hb (by first | assumption | simp [go_sem, *]); have hX := beyond (w := w) (by first | assumption | exact Below.drew (by assumption)) hb)
          | (go_at_call 8; refine (C2.out _).mono ?_; rintro e w' ⟨rfl, hb⟩; have v0 := kc ⟨w.heap.size + 1, 0, none⟩ (.int .i64 an) hb (by first | assumption | simp [go_sem, *]); have v1 := kc ⟨w.heap.size + 1, 1, none⟩ (.int .i64 ad) hb (by first | assumption | simp [go_sem, *]); have v2 := kc ⟨w.heap.size + 1 + 1, 0, none⟩ (.int .i64 bn) hb (by first | assumption | simp [go_sem, *]); have v3 := kc ⟨w.heap.size + 1 + 1, 1, none⟩ (.int .i64 bd) hb (by first | assumption | simp [go_sem, *]); have hX := beyond (w := w) (by first | assumption | exact Below.drew (by assumption)) hb))
      all_goals go_wp2_with fail
      all_goals go_meet
      all_goals exact ⟨by first | rfl | simp [*], by assumption, by assumption, by assumption, by assumption, by assumption⟩
    case rest =>
      obtain ⟨rfl, c0, c1, c2, c3, HB4⟩ := hcut
      clear C1 C2 O1 O2 W1 W2 X1 Y1 RA RB HB3 hP hQ
      go_wp2_with fail
      refine (H1.out _).mono ?_
      rintro e w5 ⟨rfl, hb⟩
      have d0 := kc _ _ hb c0
      have d1 := kc _ _ hb c1
      have d2 := kc _ _ hb c2
      have d3 := kc _ _ hb c3
      have HB5 := hideR (beyond HB4 hb)
      clear hb c0 c1 c2 c3 HB4
      cases P <;> cases Q
      all_goals
        go_wp2_with fail
        refine (H2.out _).mono ?_
        rintro e w6 ⟨rfl, hb⟩
        have c0 := kc _ _ hb d0
        have c1 := kc _ _ hb d1
        have c2 := kc _ _ hb d2
        have c3 := kc _ _ hb d3
        have HB6 := hideR (beyond HB5.out hb)
        clear hb d0 d1 d2 d3 HB5
        go_wp2_with fail
        refine (AA.out _).mono ?_
        rintro e w7 ⟨rfl, hb⟩
        have HB7 := hideR (beyond HB6.out hb)
        clear hb c0 c1 c2 c3 HB6
        go_wp2_with fail
        refine (BA.out _).mono ?_
        rintro e w8 ⟨rfl, hb⟩
        have s0 := kc ⟨w7.heap.size, 0, none⟩ (.int .i64 sn) hb (by simp [go_sem])
        have s1 := kc ⟨w7.heap.size, 1, none⟩ (.int .i64 sd) hb (by simp [go_sem])
        have HB8 := hideR (beyond (beyond HB7.out (single _ _)) hb)
        clear hb HB7
        by_cases hsg : sg = 0
        · subst hsg
          go_wp2_with fail
          first
            | (go_ret; exact ⟨rfl, HB8.out⟩)
            | (refine (H3.out (by first | trivial | rfl) (by first | trivial | rfl) (by first | trivial | rfl) _).mono ?_
               rintro e w9 ⟨rfl, hb⟩
               go_wp2_with fail
               go_ret
               exact ⟨rfl, beyond HB8.out hb⟩)
        · go_wp2_with fail
          go_ret
          exact ⟨rfl, HB8.out⟩
set_option maxRecDepth 100000 in
set_option maxHeartbeats 4000000 in
theorem top_wrong (v u an ad bn bd m k x y : Int) (w : World) (m0 : 0 ≤ m) (m1 : m < 1000) (k0 : 0 ≤ k) (k1 : k < 1000)
    (W1 : Hid (∀ w, Calls Try.prog 5 #[.int .i64 v, .int .i64 1000] w fun e w' => e = .returned (.int .i64 m) ∧ w' = w))
    (W2 : Hid (∀ w, Calls Try.prog 5 #[.int .i64 u, .int .i64 1000] w fun e w' => e = .returned (.int .i64 k) ∧ w' = w))
    (X1 : Hid (∀ w, Calls Try.prog 4 #[.int .i64 (m - 500)] w fun e w' => e = .returned (.tuple #[.int .i32 x, .int .i64 0]) ∧ w' = w))
    (Y1 : Hid (∀ w, Calls Try.prog 6 #[.int .i64 (k - 500)] w fun e w' => e = .returned (.tuple #[.int .i32 y, .int .i64 0]) ∧ w' = w))
    (ex : x = 2 * (m - 500) + 1) (ra rb : Bool) (hr : (ra && rb) = false) (RA : Hid (AskR an ad ra)) (RB : Hid (AskR bn bd rb))
    (CC : Hid (∀ w, Calls Try.prog 8 #[rv an ad, rv bn bd] w fun e w' => e = .returned (.int .i64 0) ∧ Below w.heap.size w w')) :
    Calls Try.prog 3 #[.agg #[.int .i64 v, .int .i64 u], rv an ad, rv bn bd] w fun e w' => e = .returned (.bool true) ∧ Below w.heap.size w w' := by
  have w1 : IntKind.i64.wrap (m - 500) = m - 500 := by rw [IntKind.wrap_i64]; omega
  have w2 : IntKind.i64.wrap (k - 500) = k - 500 := by rw [IntKind.wrap_i64]; omega
  have w3 : wrap64 (m - 500) = m - 500 := by unfold wrap64; omega
  have w4 : wrap64 (k - 500) = k - 500 := by unfold wrap64; omega
  go_enter Try.func3, Try.ntmps3
  go_wp2_with fail
  go_quiet (fail)
  have B0 : Below w.heap.size w (((w.alloc (.cells #[.int .i64 v, .int .i64 u] 22)).alloc (.cells #[.int .i64 an, .int .i64 ad] 24)).alloc (.cells #[.int .i64 bn, .int .i64 bd] 24)) := three w _ _ _
  have c0 : (((w.alloc (.cells #[.int .i64 v, .int .i64 u] 22)).alloc (.cells #[.int .i64 an, .int .i64 ad] 24)).alloc (.cells #[.int .i64 bn, .int .i64 bd] 24)).cell? ⟨w.heap.size + 1, 0, none⟩ = some (.int .i64 an) := by simp [go_sem]
  have c1 : (((w.alloc (.cells #[.int .i64 v, .int .i64 u] 22)).alloc (.cells #[.int .i64 an, .int .i64 ad] 24)).alloc (.cells #[.int .i64 bn, .int .i64 bd] 24)).cell? ⟨w.heap.size + 1, 1, none⟩ = some (.int .i64 ad) := by simp [go_sem]
  have c2 : (((w.alloc (.cells #[.int .i64 v, .int .i64 u] 22)).alloc (.cells #[.int .i64 an, .int .i64 ad] 24)).alloc (.cells #[.int .i64 bn, .int .i64 bd] 24)).cell? ⟨w.heap.size + 1 + 1, 0, none⟩ = some (.int .i64 bn) := by simp [go_sem]
  have c3 : (((w.alloc (.cells #[.int .i64 v, .int .i64 u] 22)).alloc (.cells #[.int .i64 an, .int .i64 ad] 24)).alloc (.cells #[.int .i64 bn, .int .i64 bd] 24)).cell? ⟨w.heap.size + 1 + 1, 1, none⟩ = some (.int .i64 bd) := by simp [go_sem]
  generalize ((w.alloc (.cells #[.int .i64 v, .int .i64 u] 22)).alloc (.cells #[.int .i64 an, .int .i64 ad] 24)).alloc (.cells #[.int .i64 bn, .int .i64 bd] 24) = W at *
  have HB := hideR B0
  clear B0
  go_wp2_with fail
  refine (W1.out _).mono ?_
  rintro e w' ⟨rfl, rfl⟩
  go_wp2_with fail
  refine (X1.out _).mono ?_
  rintro e w' ⟨rfl, rfl⟩
  go_wp2_with fail
  refine (W2.out _).mono ?_
  rintro e w' ⟨rfl, rfl⟩
  go_wp2_with fail
  refine (Y1.out _).mono ?_
  rintro e w' ⟨rfl, rfl⟩
  go_wp2_with fail
  refine (W1.out _).mono ?_
  rintro e w' ⟨rfl, rfl⟩
  go_wp2_with fail
  cases ra
  · refine (RA.out _).mono ?_
    rintro e w1 ⟨rfl, hb⟩
    have d0 := kc _ _ hb c0
    have d1 := kc _ _ hb c1
    have d2 := kc _ _ hb c2
    have d3 := kc _ _ hb c3
    have HB1 := hideR (beyond (below_drewN HB.out _) hb)
    clear hb c0 c1 c2 c3 HB
    go_wp2_with fail
    refine (CC.out _).mono ?_
    rintro e w2 ⟨rfl, hb⟩
    go_wp2_with fail
    go_ret
    exact ⟨rfl, beyond HB1.out hb⟩
  · obtain rfl : rb = false := by simpa using hr
    refine (RA.out _).mono ?_
    rintro e w1 ⟨rfl, hb⟩
    have d0 := kc _ _ hb c0
    have d1 := kc _ _ hb c1
    have d2 := kc _ _ hb c2
    have d3 := kc _ _ hb c3
    have HB1 := hideR (beyond (below_drewN HB.out _) hb)
    clear hb c0 c1 c2 c3 HB
    go_wp2_with fail
    refine (RB.out _).mono ?_
    rintro e w2 ⟨rfl, hb⟩
    have c0 := kc _ _ hb d0
    have c1 := kc _ _ hb d1
    have c2 := kc _ _ hb d2
    have c3 := kc _ _ hb d3
    have HB2 := hideR (beyond HB1.out hb)
    clear hb d0 d1 d2 d3 HB1
    go_wp2_with fail
    refine (CC.out _).mono ?_
    rintro e w3 ⟨rfl, hb⟩
    go_wp2_with fail
    go_ret
    exact ⟨rfl, beyond HB2.out hb⟩
end Go.Proofs.Ytacgkbmhklfcaab
