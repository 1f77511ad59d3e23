/-
  Cell, Empty, Dim of a zone; holds of the law.
-/
import Derived.Test.YtjanibholjimkaaQ49
import Derived.Test.YtjanibholjimkaaQ27
namespace Go.Proofs.Ytjanibholjimkaa
open Go.RowKit Go.Shelf Go.Deep
set_option linter.unusedVariables false
set_option maxRecDepth 100000
attribute [local go_sem] Oper.semAt_some
theorem cell_in (b n i j : Nat) (c : Row) (w : World) (hn : n ≤ 8) (hz : ZoneAt w b n c) (hi : i ≤ n) (hj : j ≤ n) :
    Calls Try.prog 37 #[.pointer (some ⟨b, 0, none⟩), .int .i64 i, .int .i64 j] w fun e w' => e = .returned (.tuple #[.int .i32 (c (i * (n + 1) + j)), .int .i64 0]) ∧ Below w.heap.size w w' := by
  have HH : Hid (∀ w, Calls Try.prog 55 #[.agg #[.int .i64 n], .int .i64 i, .int .i64 j] w fun e w' => e = .returned (.bool true) ∧ Below w.heap.size w w') := fun w => by
    have := has_any n i j w
    rw [decide_eq_true ⟨by omega, by omega, by omega, by omega⟩] at this
    exact this
  have HA : Hid (∀ w', Below w.heap.size w w' → Calls Try.prog 54 #[.pointer (some ⟨b, 0, none⟩), .int .i64 i, .int .i64 j] w' fun e w'' => e = .returned (.int .i32 (c (i * (n + 1) + j))) ∧ Below w'.heap.size w' w'') := fun w' hb => at_any b n i j c w' hn hi hj (hz.past hb)
  have h0 := hz.clocks
  clear hz
  generalize c (i * (n + 1) + j) = x at *
  go_enter Try.func37, Try.ntmps37
  go_wp2_with fail
  refine (HH.out _).mono ?_
  rintro e w' ⟨rfl, hb⟩
  have HA' := hideD (HA.out _ hb)
  have B1 := hideD hb
  clear hb HA
  go_wp2_with fail
  refine HA'.out.mono ?_
  rintro e w2 ⟨rfl, hb⟩
  go_wp2_with fail
  exact bodyPost_ret (v := .tuple #[.int .i32 x, .int .i64 0]) (by simp [results, Try.results37, go_sem]) rfl ⟨rfl, beyondD B1.out hb⟩
theorem empty_any (b n : Nat) (c : Row) (w : World) (hn : n ≤ 8) (hz : ZoneAt w b n c) :
    Calls Try.prog 14 #[.pointer (some ⟨b, 0, none⟩)] w fun e w' => e = .returned (.bool (decide (c 0 < 1))) ∧ Below w.heap.size w w' := by
  have H := hideD (hollow_any b n c w hn hz)
  generalize decide (c 0 < 1) = q at *
  clear hz
  go_enter Try.func14, Try.ntmps14
  go_wp2_with fail
  refine H.out.mono ?_
  rintro e w' ⟨rfl, hb⟩
  go_wp2_with fail
  go_ret
  exact ⟨rfl, hb⟩
theorem dim_any (b n : Nat) (c : Row) (w : World) (hz : ZoneAt w b n c) : Calls Try.prog 16 #[.pointer (some ⟨b, 0, none⟩)] w fun e w' => e = .returned (.int .i64 n) ∧ w' = w := by
  have h := hz.clocks
  clear hz
  go_enter Try.func16, Try.ntmps16
  go_wp2_with fail
  go_ret
  exact ⟨rfl, rfl⟩
/-- A valuation in memory: twelfths as fractions. -/
def VAt (w : World) (vb n : Nat) (X : Nat → Int) : Prop := ∀ i, i ≤ n → w.cell? ⟨vb, i * 2, none⟩ = some (.int .i64 (fN (X i))) ∧ w.cell? ⟨vb, i * 2 + 1, none⟩ = some (.int .i64 (fD (X i)))
theorem VAt.past {w w' : World} {vb n : Nat} {X : Nat → Int} (h : VAt w vb n X) (hb : Below w.heap.size w w') : VAt w' vb n X := fun i hi => ⟨kc _ _ hb (h i hi).1, kc _ _ hb (h i hi).2⟩
theorem St.small {n m T : Nat} {c : Row} {X : Nat → Int} (h : St n m c X T) (hT : T ≤ 200) (i : Nat) (hi : i ≤ n) : 0 ≤ X i ∧ X i ≤ 240108 := by
  have := h.nn i hi
  omega
theorem St.fr {n m T : Nat} {c : Row} {X : Nat → Int} (h : St n m c X T) (hT : T ≤ 200) (i : Nat) (hi : i ≤ n) : Fr (X i) (fN (X i)) (fD (X i)) := by
  have := h.small hT i hi
  exact fr_ok (by omega) (by omega)
theorem St.frs {n m T : Nat} {c : Row} {X : Nat → Int} (h : St n m c X T) (hT : T ≤ 200) (i j : Nat) (hi : i ≤ n) (hj : j ≤ n) : Fr (X i - X j) (fN (X i - X j)) (fD (X i - X j)) := by
  have := h.small hT i hi
  have := h.small hT j hj
  exact fr_ok (by omega) (by omega)
theorem St.cell {n m T : Nat} {c : Row} {X : Nat → Int} (h : St n m c X T) (hm : m = (n + 1) * (n + 1)) (hT : T ≤ 200) (i j : Nat) (hi : i ≤ n) (hj : j ≤ n) : keepT (c (i * (n + 1) + j)) (fN (X i - X j)) (fD (X i - X j)) = true := by
  obtain ⟨p, h1, h2, h3, h4⟩ := h.zone
  rw [h1.at hm hi hj]
  exact keepT_cell (h.frs hT i j hi hj) (h1.ok hm hi hj) (h3 i j hi hj)
theorem St.some {n m T : Nat} {c : Row} {X : Nat → Int} (h : St n m c X T) (hm : m = (n + 1) * (n + 1)) : decide (c 0 < 1) = false := by
  obtain ⟨p, h1, -⟩ := h.zone
  rw [h1.zero hm]
  rfl
theorem sub_says {n m T : Nat} {c : Row} {X : Nat → Int} (h : St n m c X T) (hT : T ≤ 200) (i j : Nat) (hi : i ≤ n) (hj : j ≤ n) (w : World) :
    Calls Try.prog 11 #[rv (fN (X i)) (fD (X i)), rv (fN (X j)) (fD (X j))] w fun e w' => e = .returned (.tuple #[rv (fN (X i - X j)) (fD (X i - X j)), .int .i64 0]) ∧ Below w.heap.size w w' := by
  have a := h.fr hT i hi
  have b := h.fr hT j hj
  have d := h.frs hT i j hi hj
  have := rsub_any (fN (X i)) (fD (X i)) (fN (X j)) (fD (X j)) w a.i1 a.i2 b.i1 b.i2
  rw [fr_sub a b, d.can] at this
  exact this
set_option maxHeartbeats 4000000 in
theorem lholds_any {n m T : Nat} {c : Row} {X : Nat → Int} (hn : n ≤ 3) (hm : m = (n + 1) * (n + 1)) (hT : T ≤ 200) (h : St n m c X T) (b vb : Nat) (w : World) (hz : ZoneAt w b n c) (hv : VAt w vb n X) :
    Calls Try.prog 15 #[.pointer (some ⟨b, 0, none⟩), .slice (some ⟨vb, 0, none⟩) (n + 1) (n + 1)] w fun e w' => e = .returned (.bool true) ∧ Below w.heap.size w w' := by
  have HC : Hid (∀ i j W, i ≤ n → j ≤ n → Below w.heap.size w W → _) := fun i j W hi hj hb => cell_in b n i j c W (by omega) (hz.past hb) hi hj
  have HV : Hid (∀ i W, i ≤ n → Below w.heap.size w W → _) := fun i W hi hb => hv.past hb i hi
  have HS : Hid (∀ i j, i ≤ n → j ≤ n → ∀ W, _) := fun i j hi hj W => sub_says h hT i j hi hj W
  have HK : Hid (∀ i j, i ≤ n → j ≤ n → ∀ W, Calls Try.prog 12 #[.int .i32 (c (i * (n + 1) + j)), rv (fN (X i - X j)) (fD (X i - X j))] W fun e w' => e = .returned (.bool true) ∧ Below W.heap.size W w') := fun i j hi hj W => by
    have := keeps_any (c (i * (n + 1) + j)) _ _ _ W (h.frs hT i j hi hj) (h.c32 _).1 (h.c32 _).2
    rw [h.cell hm hT i j hi hj] at this
    exact this
  obtain ⟨N, hN⟩ : ∃ N : Nat, N = n + 1 := ⟨_, rfl⟩
  rw [← hN]
  have HN := hideD hN
  clear h hz hv hT hm hN
  go_enter Try.func15, Try.ntmps15
  go_wp2_with fail
  go_loopw [5] (fun s wr => ∃ (I : Nat), I ≤ N ∧ s = .int .i64 I ∧ Hid (Below w.heap.size w wr)) (fun s _ => N - (intOf s).toNat)
  case atStart => exact ⟨0, by omega, rfl, Below.refl _ _⟩
  case round =>
    obtain ⟨I, hI, rfl, BI⟩ := hrel
    by_cases ci : I < N
    · have i1 : (I : Int) < (N : Int) := by omega
      have i0 : (0 : Int) ≤ (I : Int) := by omega
      have iN : I ≤ n := by have := HN.out; omega
      have i9 : (I : Int) < 9223372036854775807 := by omega
      go_wp2_with fail
      go_loopw [6] (fun s wr => ∃ (J : Nat), J ≤ N ∧ s = .int .i64 J ∧ Hid (Below w.heap.size w wr)) (fun s _ => N - (intOf s).toNat)
      case atStart => exact ⟨0, by omega, rfl, BI⟩
      case round =>
        obtain ⟨J, hJ, rfl, BJ⟩ := hrel
        clear BI
        by_cases cj : J < N
        · have j1 : (J : Int) < (N : Int) := by omega
          have j0 : (0 : Int) ≤ (J : Int) := by omega
          have jN : J ≤ n := by have := HN.out; omega
          have j9 : (J : Int) < 9223372036854775807 := by omega
          have C1 := hideD (HC.out I J wr iN jN BJ.out)
          have S1 : Hid (∀ W, _) := fun W => HS.out I J iN jN W
          have K1 : Hid (∀ W, _) := fun W => HK.out I J iN jN W
          have V1 : Hid (∀ W, Below w.heap.size w W → _) := fun W hb => HV.out I W iN hb
          have V2 : Hid (∀ W, Below w.heap.size w W → _) := fun W hb => HV.out J W jN hb
          clear HC HS HK HV
          generalize fN (X I) = n1 at *
          generalize fD (X I) = d1 at *
          generalize fN (X J) = n2 at *
          generalize fD (X J) = d2 at *
          generalize fN (X I - X J) = n3 at *
          generalize fD (X I - X J) = d3 at *
          generalize c (I * (n + 1) + J) = x at *
          clear iN jN
          go_wp2_with fail
          refine C1.out.mono ?_
          rintro e w1 ⟨rfl, hb⟩
          have B1 := hideD (beyondD BJ.out hb)
          obtain ⟨a1, a2⟩ := V1.out w1 B1.out
          obtain ⟨a3, a4⟩ := V2.out w1 B1.out
          clear hb C1 V1 V2
          go_upto_region 8 with (fail)
          go_cut [9, 10] (fun s t w' => ∃ q, s = .pointer (some ⟨q, 0, none⟩) ∧ t = .int .i64 0 ∧ w'.cell? ⟨q, 0, none⟩ = some (.int .i64 n3) ∧ w'.cell? ⟨q, 1, none⟩ = some (.int .i64 d3) ∧ Below w1.heap.size w1 w')
          case first =>
            refine wp_region_held (S := fun w' => w'.cell? ⟨vb, I * 2, none⟩ = some (.int .i64 n1) ∧ w'.cell? ⟨vb, I * 2 + 1, none⟩ = some (.int .i64 d1) ∧ w'.cell? ⟨vb, J * 2, none⟩ = some (.int .i64 n2) ∧ w'.cell? ⟨vb, J * 2 + 1, none⟩ = some (.int .i64 d2)) (by kernel_rfl) ?_
            have hHeld : w1.drew.cell? ⟨vb, I * 2, none⟩ = some (.int .i64 n1) ∧ w1.drew.cell? ⟨vb, I * 2 + 1, none⟩ = some (.int .i64 d1) ∧ w1.drew.cell? ⟨vb, J * 2, none⟩ = some (.int .i64 n2) ∧ w1.drew.cell? ⟨vb, J * 2 + 1, none⟩ = some (.int .i64 d2) := ⟨a1, a2, a3, a4⟩
            have BQ := hideD ((Below.refl w1.heap.size w1).drew)
            refine wpAnyH_take (i := 0) (oi := ⟨_, _, _, _, _, _⟩) (v := ?_) rfl (by kernel_rfl) (by kernel_rfl) (by kernel_rfl) (fun _ _ _ h => h) (Or.inl ⟨by rfl, ?_⟩) (by assumption) ?_
            rotate_left
            · intro w hs1; (try dsimp only at hs1); obtain ⟨s0, s1, s2, s3⟩ := hs1; first | (go_simp; done) | (go_simp; with_reducible rfl)
            try simp only [Act.put, List.setIfInBounds_toArray, List.set_cons_zero, List.set_cons_succ]
            refine wpAnyH_take (i := 1) (oi := ⟨_, _, _, _, _, _⟩) (v := ?_) rfl (by kernel_rfl) (by kernel_rfl) (by kernel_rfl) (fun _ _ _ h => h) (Or.inl ⟨by rfl, ?_⟩) (by assumption) ?_
            rotate_left
            · intro w hs1; (try dsimp only at hs1); obtain ⟨s0, s1, s2, s3⟩ := hs1; first | (go_simp; done) | (go_simp; with_reducible rfl)
            try simp only [Act.put, List.setIfInBounds_toArray, List.set_cons_zero, List.set_cons_succ]
            refine wpAnyH_take (i := 2) (oi := ⟨_, _, _, _, _, _⟩) (v := ?_) rfl (by kernel_rfl) (by kernel_rfl) (by kernel_rfl) (fun _ _ _ h => h) (Or.inl ⟨by rfl, ?_⟩) (by assumption) ?_
            rotate_left
            · intro w hs1; (try dsimp only at hs1); obtain ⟨s0, s1, s2, s3⟩ := hs1; first | (go_simp; done) | (go_simp; with_reducible rfl)
            try simp only [Act.put, List.setIfInBounds_toArray, List.set_cons_zero, List.set_cons_succ]
            refine wpAnyH_take (i := 3) (oi := ⟨_, _, _, _, _, _⟩) (v := ?_) rfl (by kernel_rfl) (by kernel_rfl) (by kernel_rfl) (fun _ _ _ h => h) (Or.inl ⟨by rfl, ?_⟩) (by assumption) ?_
            rotate_left
            · intro w hs1; (try dsimp only at hs1); obtain ⟨s0, s1, s2, s3⟩ := hs1; first | (go_simp; done) | (go_simp; with_reducible rfl)
            try simp only [Act.put, List.setIfInBounds_toArray, List.set_cons_zero, List.set_cons_succ]
            refine wpAnyH_take (i := 4) (oi := ⟨_, _, _, _, _, _⟩) (v := ?_) rfl (by kernel_rfl) (by kernel_rfl) (by kernel_rfl) (fun _ _ _ h => h) (Or.inl ⟨by rfl, ?_⟩) (by assumption) ?_
            rotate_left
            · intro w hs1; (try dsimp only at hs1); obtain ⟨s0, s1, s2, s3⟩ := hs1; first | (go_simp; done) | (go_simp; with_reducible rfl)
            try simp only [Act.put, List.setIfInBounds_toArray, List.set_cons_zero, List.set_cons_succ]
            refine wpAnyH_take (i := 5) (oi := ⟨_, _, _, _, _, _⟩) (v := ?_) rfl (by kernel_rfl) (by kernel_rfl) (by kernel_rfl) (fun _ _ _ h => h) (Or.inl ⟨by rfl, ?_⟩) (by assumption) ?_
            rotate_left
            · intro w hs1; (try dsimp only at hs1); obtain ⟨s0, s1, s2, s3⟩ := hs1; first | (go_simp; done) | (go_simp; with_reducible rfl)
            try simp only [Act.put, List.setIfInBounds_toArray, List.set_cons_zero, List.set_cons_succ]
            refine wpAnyH_take (i := 6) (oi := ⟨_, _, _, _, _, _⟩) (v := ?_) rfl (by kernel_rfl) (by kernel_rfl) (by kernel_rfl) (fun _ _ _ h => h) (Or.inl ⟨by rfl, ?_⟩) (by assumption) ?_
            rotate_left
            · intro w hs1; (try dsimp only at hs1); obtain ⟨s0, s1, s2, s3⟩ := hs1; first | (go_simp; done) | (go_simp; with_reducible rfl)
            try simp only [Act.put, List.setIfInBounds_toArray, List.set_cons_zero, List.set_cons_succ]
            refine wpAnyH_take (i := 7) (oi := ⟨_, _, _, _, _, _⟩) (v := ?_) rfl (by kernel_rfl) (by kernel_rfl) (by kernel_rfl) (fun _ _ _ h => h) (Or.inl ⟨by rfl, ?_⟩) (by assumption) ?_
            rotate_left
            · intro w hs1; (try dsimp only at hs1); obtain ⟨s0, s1, s2, s3⟩ := hs1; first | (go_simp; done) | (go_simp; with_reducible rfl)
            try simp only [Act.put, List.setIfInBounds_toArray, List.set_cons_zero, List.set_cons_succ]
            refine wpAnyH_ready (rs := [8, 12]) (by kernel_rfl) (by simp) ?_
            refine AllReadyH.cons (o := ⟨_, _, _, _, _, _⟩) rfl (fun KK hK => ?_) ?_
            · go_simp
              refine (S1.out _).mono ?_
              rintro e w6 ⟨rfl, hb⟩
              have BQ := hideD (beyondD BQ.out hb)
              try (have f0 := kf _ _ hb c0 f0)
              try (have f1 := kf _ _ hb c1 f1)
              try (have c0 := kc _ _ hb c0)
              try (have c1 := kc _ _ hb c1)
              clear hb
              refine hK.out _ _ ⟨kc _ _ BQ.out a1, kc _ _ BQ.out a2, kc _ _ BQ.out a3, kc _ _ BQ.out a4⟩ (fun hHeld => ?_)
              clear hK KK
              try simp only [Act.put, List.setIfInBounds_toArray, List.set_cons_zero, List.set_cons_succ]
              refine wpAnyH_take (i := 9) (oi := ⟨_, _, _, _, _, _⟩) (v := ?_) rfl (by kernel_rfl) (by kernel_rfl) (by kernel_rfl) (fun _ _ _ h => h) (Or.inl ⟨by rfl, ?_⟩) (by assumption) ?_
              rotate_left
              · intro w hs1; (try dsimp only at hs1); obtain ⟨s0, s1, s2, s3⟩ := hs1; first | (go_simp; done) | (go_simp; with_reducible rfl)
              try simp only [Act.put, List.setIfInBounds_toArray, List.set_cons_zero, List.set_cons_succ]
              refine wpAnyH_take (i := 10) (oi := ⟨_, _, _, _, _, _⟩) (v := ?_) rfl (by kernel_rfl) (by kernel_rfl) (by kernel_rfl) (fun _ _ _ h => h) (Or.inl ⟨by rfl, ?_⟩) (by assumption) ?_
              rotate_left
              · intro w hs1; (try dsimp only at hs1); obtain ⟨s0, s1, s2, s3⟩ := hs1; first | (go_simp; done) | (go_simp; with_reducible rfl)
              try simp only [Act.put, List.setIfInBounds_toArray, List.set_cons_zero, List.set_cons_succ]
              refine wpAnyH_take (i := 11) (oi := ⟨_, _, _, _, _, _⟩) (v := ?_) rfl (by kernel_rfl) (by kernel_rfl) (by kernel_rfl) (fun _ _ _ h => h) (Or.inl ⟨by rfl, ?_⟩) (by assumption) ?_
              rotate_left
              · intro w hs1; (try dsimp only at hs1); obtain ⟨s0, s1, s2, s3⟩ := hs1; first | (go_simp; done) | (go_simp; with_reducible rfl)
              try simp only [Act.put, List.setIfInBounds_toArray, List.set_cons_zero, List.set_cons_succ]
              refine wpAnyH_ready (rs := [12]) (by kernel_rfl) (by simp) ?_
              refine AllReadyH.cons (o := ⟨_, _, _, _, _, _⟩) rfl (fun KK hK => ?_) AllReadyH.nil
              go_simp
              have c0 : (w6.alloc (.cells #[.int .i64 0, .int .i64 0] 30)).cell? ⟨w6.heap.size, 0, none⟩ = some (.int .i64 0) := by simp [go_sem]
              have c1 : (w6.alloc (.cells #[.int .i64 0, .int .i64 0] 30)).cell? ⟨w6.heap.size, 1, none⟩ = some (.int .i64 0) := by simp [go_sem]
              have f0 : (w6.alloc (.cells #[.int .i64 0, .int .i64 0] 30)).frozen? ⟨w6.heap.size, 0, none⟩ = false := by simp [go_sem]
              have f1 : (w6.alloc (.cells #[.int .i64 0, .int .i64 0] 30)).frozen? ⟨w6.heap.size, 1, none⟩ = false := by simp [go_sem]
              have qs : w1.heap.size ≤ w6.heap.size := BQ.out.size
              have BQ := hideD (beyondD BQ.out (single w6 (.cells #[.int .i64 0, .int .i64 0] 30)))
              generalize w6.alloc (.cells #[.int .i64 0, .int .i64 0] 30) = wq at *
              generalize w6.heap.size = q at *
              refine hK.out _ _ ⟨kc _ _ BQ.out a1, kc _ _ BQ.out a2, kc _ _ BQ.out a3, kc _ _ BQ.out a4⟩ (fun hHeld => ?_)
              clear hK KK
              try simp only [Act.put, List.setIfInBounds_toArray, List.set_cons_zero, List.set_cons_succ]
              refine wpAnyH_ready (rs := [13]) (by kernel_rfl) (by simp) ?_
              refine AllReadyH.cons (o := ⟨_, _, _, _, _, _⟩) rfl (fun KK hK => ?_) AllReadyH.nil
              go_simp
              have BQ := hideD (set2 (o1 := 0) (o2 := 1) BQ.out qs (.int .i64 n3) (.int .i64 d3))
              have z0 : ((wq.setCell ⟨q, 0, none⟩ (.int .i64 n3)).setCell ⟨q, 1, none⟩ (.int .i64 d3)).cell? ⟨q, 0, none⟩ = some (.int .i64 n3) := by simp [go_sem, *]
              have z1 : ((wq.setCell ⟨q, 0, none⟩ (.int .i64 n3)).setCell ⟨q, 1, none⟩ (.int .i64 d3)).cell? ⟨q, 1, none⟩ = some (.int .i64 d3) := by simp [go_sem, *]
              refine hK.out _ _ ⟨kc _ _ BQ.out a1, kc _ _ BQ.out a2, kc _ _ BQ.out a3, kc _ _ BQ.out a4⟩ (fun hHeld => ?_)
              clear hK KK
              try simp only [Act.put, List.setIfInBounds_toArray, List.set_cons_zero, List.set_cons_succ]
              refine wpAnyH_take (i := 14) (oi := ⟨_, _, _, _, _, _⟩) (v := ?_) rfl (by kernel_rfl) (by kernel_rfl) (by kernel_rfl) (fun _ _ _ h => h) (Or.inl ⟨by rfl, ?_⟩) (by assumption) ?_
              rotate_left
              · intro w hs1; (try dsimp only at hs1); obtain ⟨s0, s1, s2, s3⟩ := hs1; first | (go_simp; done) | (go_simp; with_reducible rfl)
              try simp only [Act.put, List.setIfInBounds_toArray, List.set_cons_zero, List.set_cons_succ]
              refine wpAnyH_done (by kernel_rfl) ?_ _
              go_wp2_with fail
              go_meet
              exact ⟨_, rfl, rfl, z0, z1, BQ.out⟩
            refine AllReadyH.cons (o := ⟨_, _, _, _, _, _⟩) rfl (fun KK hK => ?_) AllReadyH.nil
            go_simp
            have c0 : ((w1.alloc (.cells #[.int .i64 0, .int .i64 0] 30)).drew).cell? ⟨w1.heap.size, 0, none⟩ = some (.int .i64 0) := by simp [go_sem]
            have c1 : ((w1.alloc (.cells #[.int .i64 0, .int .i64 0] 30)).drew).cell? ⟨w1.heap.size, 1, none⟩ = some (.int .i64 0) := by simp [go_sem]
            have f0 : ((w1.alloc (.cells #[.int .i64 0, .int .i64 0] 30)).drew).frozen? ⟨w1.heap.size, 0, none⟩ = false := by simp [go_sem]
            have f1 : ((w1.alloc (.cells #[.int .i64 0, .int .i64 0] 30)).drew).frozen? ⟨w1.heap.size, 1, none⟩ = false := by simp [go_sem]
            have qs : w1.heap.size ≤ w1.heap.size := Nat.le_refl _
            have BQ := hideD ((single w1 (.cells #[.int .i64 0, .int .i64 0] 30)).drew)
            generalize (w1.alloc (.cells #[.int .i64 0, .int .i64 0] 30)).drew = wq at *
            skip
            refine hK.out _ _ ⟨kc _ _ BQ.out a1, kc _ _ BQ.out a2, kc _ _ BQ.out a3, kc _ _ BQ.out a4⟩ (fun hHeld => ?_)
            clear hK KK
            try simp only [Act.put, List.setIfInBounds_toArray, List.set_cons_zero, List.set_cons_succ]
            refine wpAnyH_ready (rs := [8]) (by kernel_rfl) (by simp) ?_
            refine AllReadyH.cons (o := ⟨_, _, _, _, _, _⟩) rfl (fun KK hK => ?_) AllReadyH.nil
            go_simp
            refine (S1.out _).mono ?_
            rintro e w6 ⟨rfl, hb⟩
            have BQ := hideD (beyondD BQ.out hb)
            try (have f0 := kf _ _ hb c0 f0)
            try (have f1 := kf _ _ hb c1 f1)
            try (have c0 := kc _ _ hb c0)
            try (have c1 := kc _ _ hb c1)
            clear hb
            refine hK.out _ _ ⟨kc _ _ BQ.out a1, kc _ _ BQ.out a2, kc _ _ BQ.out a3, kc _ _ BQ.out a4⟩ (fun hHeld => ?_)
            clear hK KK
            try simp only [Act.put, List.setIfInBounds_toArray, List.set_cons_zero, List.set_cons_succ]
            refine wpAnyH_take (i := 9) (oi := ⟨_, _, _, _, _, _⟩) (v := ?_) rfl (by kernel_rfl) (by kernel_rfl) (by kernel_rfl) (fun _ _ _ h => h) (Or.inl ⟨by rfl, ?_⟩) (by assumption) ?_
            rotate_left
            · intro w hs1; (try dsimp only at hs1); obtain ⟨s0, s1, s2, s3⟩ := hs1; first | (go_simp; done) | (go_simp; with_reducible rfl)
            try simp only [Act.put, List.setIfInBounds_toArray, List.set_cons_zero, List.set_cons_succ]
            refine wpAnyH_take (i := 10) (oi := ⟨_, _, _, _, _, _⟩) (v := ?_) rfl (by kernel_rfl) (by kernel_rfl) (by kernel_rfl) (fun _ _ _ h => h) (Or.inl ⟨by rfl, ?_⟩) (by assumption) ?_
            rotate_left
            · intro w hs1; (try dsimp only at hs1); obtain ⟨s0, s1, s2, s3⟩ := hs1; first | (go_simp; done) | (go_simp; with_reducible rfl)
            try simp only [Act.put, List.setIfInBounds_toArray, List.set_cons_zero, List.set_cons_succ]
            refine wpAnyH_take (i := 11) (oi := ⟨_, _, _, _, _, _⟩) (v := ?_) rfl (by kernel_rfl) (by kernel_rfl) (by kernel_rfl) (fun _ _ _ h => h) (Or.inl ⟨by rfl, ?_⟩) (by assumption) ?_
            rotate_left
            · intro w hs1; (try dsimp only at hs1); obtain ⟨s0, s1, s2, s3⟩ := hs1; first | (go_simp; done) | (go_simp; with_reducible rfl)
            try simp only [Act.put, List.setIfInBounds_toArray, List.set_cons_zero, List.set_cons_succ]
            refine wpAnyH_ready (rs := [13]) (by kernel_rfl) (by simp) ?_
            refine AllReadyH.cons (o := ⟨_, _, _, _, _, _⟩) rfl (fun KK hK => ?_) AllReadyH.nil
            go_simp
            have BQ := hideD (set2 (o1 := 0) (o2 := 1) BQ.out qs (.int .i64 n3) (.int .i64 d3))
            have z0 : ((w6.setCell ⟨w1.heap.size, 0, none⟩ (.int .i64 n3)).setCell ⟨w1.heap.size, 1, none⟩ (.int .i64 d3)).cell? ⟨w1.heap.size, 0, none⟩ = some (.int .i64 n3) := by simp [go_sem, *]
            have z1 : ((w6.setCell ⟨w1.heap.size, 0, none⟩ (.int .i64 n3)).setCell ⟨w1.heap.size, 1, none⟩ (.int .i64 d3)).cell? ⟨w1.heap.size, 1, none⟩ = some (.int .i64 d3) := by simp [go_sem, *]
            refine hK.out _ _ ⟨kc _ _ BQ.out a1, kc _ _ BQ.out a2, kc _ _ BQ.out a3, kc _ _ BQ.out a4⟩ (fun hHeld => ?_)
            clear hK KK
            try simp only [Act.put, List.setIfInBounds_toArray, List.set_cons_zero, List.set_cons_succ]
            refine wpAnyH_take (i := 14) (oi := ⟨_, _, _, _, _, _⟩) (v := ?_) rfl (by kernel_rfl) (by kernel_rfl) (by kernel_rfl) (fun _ _ _ h => h) (Or.inl ⟨by rfl, ?_⟩) (by assumption) ?_
            rotate_left
            · intro w hs1; (try dsimp only at hs1); obtain ⟨s0, s1, s2, s3⟩ := hs1; first | (go_simp; done) | (go_simp; with_reducible rfl)
            try simp only [Act.put, List.setIfInBounds_toArray, List.set_cons_zero, List.set_cons_succ]
            refine wpAnyH_done (by kernel_rfl) ?_ _
            go_wp2_with fail
            go_meet
            exact ⟨_, rfl, rfl, z0, z1, BQ.out⟩
          case rest =>
            obtain ⟨q, rfl, rfl, z0, z1, hb⟩ := hcut
            have B2 := hideD (beyondD B1.out hb)
            clear hb a1 a2 a3 a4 S1 B1
            go_wp2_with fail
            refine (K1.out _).mono ?_
            rintro e w8 ⟨rfl, hb⟩
            have B3 := hideD (beyondD B2.out hb)
            clear hb K1 B2 z0 z1
            go_wp2_with fail
            go_roundw
            case rel => exact ⟨J + 1, by omega, by go_num, B3⟩
            case measure => simp [intOf]; omega
        · go_wp2_with fail
          clear HC HS HK HV
          go_roundw
          case rel => exact ⟨I + 1, by omega, by go_num, BJ⟩
          case measure => simp [intOf]; omega
    · go_wp2_with fail
      go_ret
      exact ⟨rfl, BI.out⟩
end Go.Proofs.Ytjanibholjimkaa
