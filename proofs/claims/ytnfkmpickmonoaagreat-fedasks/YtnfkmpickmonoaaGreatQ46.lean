/-
  The contracts of the document's Compare of fractions, by signs.
-/
import Derived.Test.YtnfkmpickmonoaaGreatQ45
namespace Go.Proofs.YtnfkmpickmonoaaGreat
open Go.RowKit Go.Shelf
set_option linter.unusedVariables false
theorem set_fz {W : World} {b c o : Nat} {x y : Value} (h : W.frozen? ⟨c, o, none⟩ = false) : ((W.setCell ⟨b, 0, none⟩ x).setCell ⟨b, 1, none⟩ y).frozen? ⟨c, o, none⟩ = false := by
  simp [go_sem, *]
set_option maxRecDepth 100000 in
set_option maxHeartbeats 4000000 in
theorem xcompare_raw (an ad bn bd sa sb xh xl yh yl r : Int) (w : World)
    (wa : IntKind.u64.wrap ad = ad) (wb : IntKind.u64.wrap bd = bd)
    (HRa : Hid (∀ w, Calls Tryz.prog 91 #[rv an ad] w fun e w' => e = .returned (.bool true) ∧ Below w.heap.size w w'))
    (HRb : Hid (∀ w, Calls Tryz.prog 91 #[rv bn bd] w fun e w' => e = .returned (.bool true) ∧ Below w.heap.size w w'))
    (HSa : Hid (∀ w, Calls Tryz.prog 118 #[.int .i64 an] w fun e w' => e = .returned (.int .u64 sa) ∧ w' = w))
    (HSb : Hid (∀ w, Calls Tryz.prog 118 #[.int .i64 bn] w fun e w' => e = .returned (.int .u64 sb) ∧ w' = w))
    (HMx : Hid (∀ w, Calls Tryz.prog 137 #[.int .u64 sa, .int .u64 bd] w fun e w' => e = .returned (.agg #[.int .u64 xh, .int .u64 xl]) ∧ Below w.heap.size w w'))
    (HMy : Hid (∀ w, Calls Tryz.prog 137 #[.int .u64 sb, .int .u64 ad] w fun e w' => e = .returned (.agg #[.int .u64 yh, .int .u64 yl]) ∧ Below w.heap.size w w'))
    (HF : Hid ((an < 0 ∧ decide (0 ≤ an) = false ∧ decide (bn < 0) = false ∧ 0 ≤ bn ∧ r = -1) ∨
      (decide (an < 0) = false ∧ 0 ≤ an ∧ bn < 0 ∧ decide (0 ≤ bn) = false ∧ r = 1) ∨
      (decide (an < 0) = false ∧ 0 ≤ an ∧ decide (bn < 0) = false ∧ 0 ≤ bn ∧ Hid (∀ w, Calls Tryz.prog 138 #[.agg #[.int .u64 xh, .int .u64 xl], .agg #[.int .u64 yh, .int .u64 yl]] w fun e w' => e = .returned (.bool true) ∧ Below w.heap.size w w') ∧ r = -1) ∨
      (decide (an < 0) = false ∧ 0 ≤ an ∧ decide (bn < 0) = false ∧ 0 ≤ bn ∧ Hid (∀ w, Calls Tryz.prog 138 #[.agg #[.int .u64 xh, .int .u64 xl], .agg #[.int .u64 yh, .int .u64 yl]] w fun e w' => e = .returned (.bool false) ∧ Below w.heap.size w w') ∧ Hid (∀ w, Calls Tryz.prog 138 #[.agg #[.int .u64 yh, .int .u64 yl], .agg #[.int .u64 xh, .int .u64 xl]] w fun e w' => e = .returned (.bool true) ∧ Below w.heap.size w w') ∧ r = 1) ∨
      (decide (an < 0) = false ∧ 0 ≤ an ∧ decide (bn < 0) = false ∧ 0 ≤ bn ∧ Hid (∀ w, Calls Tryz.prog 138 #[.agg #[.int .u64 xh, .int .u64 xl], .agg #[.int .u64 yh, .int .u64 yl]] w fun e w' => e = .returned (.bool false) ∧ Below w.heap.size w w') ∧ Hid (∀ w, Calls Tryz.prog 138 #[.agg #[.int .u64 yh, .int .u64 yl], .agg #[.int .u64 xh, .int .u64 xl]] w fun e w' => e = .returned (.bool false) ∧ Below w.heap.size w w') ∧ r = 0) ∨
      (an < 0 ∧ decide (0 ≤ an) = false ∧ bn < 0 ∧ decide (0 ≤ bn) = false ∧ Hid (∀ w, Calls Tryz.prog 138 #[.agg #[.int .u64 yh, .int .u64 yl], .agg #[.int .u64 xh, .int .u64 xl]] w fun e w' => e = .returned (.bool true) ∧ Below w.heap.size w w') ∧ r = -1) ∨
      (an < 0 ∧ decide (0 ≤ an) = false ∧ bn < 0 ∧ decide (0 ≤ bn) = false ∧ Hid (∀ w, Calls Tryz.prog 138 #[.agg #[.int .u64 yh, .int .u64 yl], .agg #[.int .u64 xh, .int .u64 xl]] w fun e w' => e = .returned (.bool false) ∧ Below w.heap.size w w') ∧ Hid (∀ w, Calls Tryz.prog 138 #[.agg #[.int .u64 xh, .int .u64 xl], .agg #[.int .u64 yh, .int .u64 yl]] w fun e w' => e = .returned (.bool true) ∧ Below w.heap.size w w') ∧ r = 1) ∨
      (an < 0 ∧ decide (0 ≤ an) = false ∧ bn < 0 ∧ decide (0 ≤ bn) = false ∧ Hid (∀ w, Calls Tryz.prog 138 #[.agg #[.int .u64 yh, .int .u64 yl], .agg #[.int .u64 xh, .int .u64 xl]] w fun e w' => e = .returned (.bool false) ∧ Below w.heap.size w w') ∧ Hid (∀ w, Calls Tryz.prog 138 #[.agg #[.int .u64 xh, .int .u64 xl], .agg #[.int .u64 yh, .int .u64 yl]] w fun e w' => e = .returned (.bool false) ∧ Below w.heap.size w w') ∧ r = 0)))  :
    Calls Tryz.prog 121 #[rv an ad, rv bn bd] w fun e w' => e = .returned (.int .i64 r) ∧ Below w.heap.size w w' := by
  go_enter Tryz.func121, Tryz.ntmps121
  go_wp2_with fail
  refine (HRa.out _).mono ?_
  rintro e' w1 ⟨rfl, hb⟩
  have a0 := kc ⟨w.heap.size, 0, none⟩ (.int .i64 an) hb (by first | assumption | simp [go_sem, *])
  have a1 := kc ⟨w.heap.size, 1, none⟩ (.int .i64 ad) hb (by first | assumption | simp [go_sem, *])
  have a2 := kc ⟨w.heap.size + 1, 0, none⟩ (.int .i64 bn) hb (by first | assumption | simp [go_sem, *])
  have a3 := kc ⟨w.heap.size + 1, 1, none⟩ (.int .i64 bd) hb (by first | assumption | simp [go_sem, *])
  have hB1 : Below w.heap.size w w1 := beyond (two w _ _) hb
  clear hb
  go_wp2_with fail
  refine (HRb.out _).mono ?_
  rintro e' W ⟨rfl, hb⟩
  have c0 := kc _ _ hb a0
  have c1 := kc _ _ hb a1
  have c2 := kc _ _ hb a2
  have c3 := kc _ _ hb a3
  have HB0 : Below w.heap.size w W := beyond hB1 hb
  clear hb hB1 a0 a1 a2 a3 HRa HRb
  have k6 := World.block_lt_of_cell? _ _ c2
  have k5 : w.heap.size + 1 < W.heap.size := k6
  have k1 : ¬ W.heap.size = w.heap.size := by omega
  have k2 : ¬ W.heap.size = w.heap.size + 1 := by omega
  clear k6
  go_upto_region 3 with (fail)
  go_cut [5] (fun t w' => ∃ bx : Nat, t = .pointer (some ⟨bx, 0, none⟩) ∧ w.heap.size + 1 < bx ∧ w'.cell? ⟨bx, 0, none⟩ = some (.int .u64 xh) ∧ w'.cell? ⟨bx, 1, none⟩ = some (.int .u64 xl) ∧ w'.frozen? ⟨bx, 0, none⟩ = false ∧ w'.frozen? ⟨bx, 1, none⟩ = false ∧ w'.cell? ⟨w.heap.size, 0, none⟩ = some (.int .i64 an) ∧ w'.cell? ⟨w.heap.size, 1, none⟩ = some (.int .i64 ad) ∧ w'.cell? ⟨w.heap.size + 1, 0, none⟩ = some (.int .i64 bn) ∧ w'.cell? ⟨w.heap.size + 1, 1, none⟩ = some (.int .i64 bd) ∧ Below w.heap.size w w')
  case first =>
    go_region_held3 (fun w' => w'.cell? ⟨w.heap.size, 0, none⟩ = some (.int .i64 an) ∧ w'.cell? ⟨w.heap.size, 1, none⟩ = some (.int .i64 ad) ∧ w'.cell? ⟨w.heap.size + 1, 0, none⟩ = some (.int .i64 bn) ∧ w'.cell? ⟨w.heap.size + 1, 1, none⟩ = some (.int .i64 bd))
      (first | exact ⟨by assumption, by assumption, by assumption, by assumption⟩ | go_keep)
      (first
        | (go_at_call 118; refine (HSa.out _).mono ?_; rintro e' w' ⟨rfl, rfl⟩)
        | (go_at_call 137; refine (HMx.out _).mono ?_; rintro e' w' ⟨rfl, hb⟩; have v0 := kc ⟨w.heap.size, 0, none⟩ (.int .i64 an) hb (by first | assumption | simp [go_sem, *]); have v1 := kc ⟨w.heap.size, 1, none⟩ (.int .i64 ad) hb (by first | assumption | simp [go_sem, *]); have v2 := kc ⟨w.heap.size + 1, 0, none⟩ (.int .i64 bn) hb (by first | assumption | simp [go_sem, *]); have v3 := kc ⟨w.heap.size + 1, 1, none⟩ (.int .i64 bd) hb (by first | assumption | simp [go_sem, *]); (first | (with_reducible (have zz := newPair hb); obtain ⟨z0, z1, q0, q1, q2, q3⟩ := zz) | (with_reducible (have zz := newPairD hb); obtain ⟨z0, z1, q0, q1, q2, q3⟩ := zz) | (with_reducible (have zz := newPairI hb); obtain ⟨z0, z1, q0, q1, q2, q3⟩ := zz) | skip); have hX := beyond (w := w) (by first | assumption | exact Below.drew (by assumption) | exact Below.alloc (by assumption) (Below.size (by assumption)) _ | exact Below.alloc (Below.drew (by assumption)) (Below.size (by assumption)) _ | exact Below.drew (Below.alloc (by assumption) (Below.size (by assumption)) _)) hb; have l5 : w.heap.size + 1 < w'.heap.size := World.block_lt_of_cell? _ _ v2; have l2 : ¬ w'.heap.size = w.heap.size := (by omega); have l3 : ¬ w'.heap.size = w.heap.size + 1 := (by omega)))
    all_goals go_wp2_with fail
    all_goals go_meet
    all_goals refine ⟨_, rfl, ?_, ?_, ?_, ?_, ?_, ?_, ?_, ?_, ?_, ?_⟩
    all_goals first | with_reducible assumption | with_reducible exact set_other (by assumption) (by assumption) | with_reducible exact set_fz (by assumption) | with_reducible exact kc _ _ (single _ _) (by assumption) | (simp [go_sem]; done) | (simp [go_sem, *]; done) | exact Below.alloc (by assumption) (Below.size (by assumption)) _ | exact set2 (by assumption) (Nat.le_of_lt (Nat.lt_of_le_of_lt (Nat.le_add_right _ _) (by assumption))) _ _ | omega | skip
  case rest =>
    clear c0 c1 c2 c3 HB0 k1 k2 k5
    obtain ⟨bx, rfl, hbx, x0, x1, xf0, xf1, c0, c1, c2, c3, HB0⟩ := hcut
    go_upto_region 4 with (fail)
    have k6 := World.block_lt_of_cell? _ _ c2
    have k5 : w.heap.size + 1 < wc.heap.size := k6
    have k1 : ¬ wc.heap.size = w.heap.size := by omega
    have k2 : ¬ wc.heap.size = w.heap.size + 1 := by omega
    clear k6
    have kx : bx < wc.heap.size := World.block_lt_of_cell? _ _ x0
    have kx2 : ¬ wc.heap.size = bx := by omega
    go_cut [6] (fun t w' => ∃ by_ : Nat, t = .pointer (some ⟨by_, 0, none⟩) ∧ w.heap.size + 1 < by_ ∧ w'.cell? ⟨by_, 0, none⟩ = some (.int .u64 yh) ∧ w'.cell? ⟨by_, 1, none⟩ = some (.int .u64 yl) ∧ w'.frozen? ⟨by_, 0, none⟩ = false ∧ w'.frozen? ⟨by_, 1, none⟩ = false ∧ w'.cell? ⟨w.heap.size, 0, none⟩ = some (.int .i64 an) ∧ w'.cell? ⟨w.heap.size, 1, none⟩ = some (.int .i64 ad) ∧ w'.cell? ⟨w.heap.size + 1, 0, none⟩ = some (.int .i64 bn) ∧ w'.cell? ⟨w.heap.size + 1, 1, none⟩ = some (.int .i64 bd) ∧ w'.cell? ⟨bx, 0, none⟩ = some (.int .u64 xh) ∧ w'.cell? ⟨bx, 1, none⟩ = some (.int .u64 xl) ∧ w'.frozen? ⟨bx, 0, none⟩ = false ∧ w'.frozen? ⟨bx, 1, none⟩ = false ∧ ¬ by_ = bx ∧ Below w.heap.size w w')
    case first =>
      go_region_held3 (fun w' => w'.cell? ⟨w.heap.size, 0, none⟩ = some (.int .i64 an) ∧ w'.cell? ⟨w.heap.size, 1, none⟩ = some (.int .i64 ad) ∧ w'.cell? ⟨w.heap.size + 1, 0, none⟩ = some (.int .i64 bn) ∧ w'.cell? ⟨w.heap.size + 1, 1, none⟩ = some (.int .i64 bd))
        (first | exact ⟨by assumption, by assumption, by assumption, by assumption⟩ | go_keep)
        (first
          | (go_at_call 118; refine (HSb.out _).mono ?_; rintro e' w' ⟨rfl, rfl⟩)
          | (go_at_call 137; refine (HMy.out _).mono ?_; rintro e' w' ⟨rfl, hb⟩; have v0 := kc ⟨w.heap.size, 0, none⟩ (.int .i64 an) hb (by first | assumption | simp [go_sem, *]); have v1 := kc ⟨w.heap.size, 1, none⟩ (.int .i64 ad) hb (by first | assumption | simp [go_sem, *]); have v2 := kc ⟨w.heap.size + 1, 0, none⟩ (.int .i64 bn) hb (by first | assumption | simp [go_sem, *]); have v3 := kc ⟨w.heap.size + 1, 1, none⟩ (.int .i64 bd) hb (by first | assumption | simp [go_sem, *]); have v4 := kc ⟨bx, 0, none⟩ (.int .u64 xh) hb (by first | assumption | simp [go_sem, *]); have v5 := kc ⟨bx, 1, none⟩ (.int .u64 xl) hb (by first | assumption | simp [go_sem, *]); have vf0 := kf ⟨bx, 0, none⟩ (.int .u64 xh) hb (by first | assumption | simp [go_sem, *]) (by first | assumption | simp [go_sem, *]); have vf1 := kf ⟨bx, 1, none⟩ (.int .u64 xl) hb (by first | assumption | simp [go_sem, *]) (by first | assumption | simp [go_sem, *]); (first | (with_reducible (have zz := newPair hb); obtain ⟨z0, z1, q0, q1, q2, q3⟩ := zz) | (with_reducible (have zz := newPairD hb); obtain ⟨z0, z1, q0, q1, q2, q3⟩ := zz) | (with_reducible (have zz := newPairI hb); obtain ⟨z0, z1, q0, q1, q2, q3⟩ := zz) | skip); have hX := beyond (w := w) (by first | assumption | exact Below.drew (by assumption) | exact Below.alloc (by assumption) (Below.size (by assumption)) _ | exact Below.alloc (Below.drew (by assumption)) (Below.size (by assumption)) _ | exact Below.drew (Below.alloc (by assumption) (Below.size (by assumption)) _)) hb; have l5 : w.heap.size + 1 < w'.heap.size := World.block_lt_of_cell? _ _ v2; have l2 : ¬ w'.heap.size = w.heap.size := (by omega); have l3 : ¬ w'.heap.size = w.heap.size + 1 := (by omega); have lx_bx : bx < w'.heap.size := World.block_lt_of_cell? _ _ v4; have ly_bx : ¬ w'.heap.size = bx := (by omega)))
      all_goals go_wp2_with fail
      all_goals go_meet
      all_goals refine ⟨_, rfl, ?_, ?_, ?_, ?_, ?_, ?_, ?_, ?_, ?_, ?_, ?_, ?_, ?_, ?_, ?_⟩
      all_goals first | with_reducible assumption | with_reducible exact set_other (by assumption) (by assumption) | with_reducible exact set_fz (by assumption) | with_reducible exact kc _ _ (single _ _) (by assumption) | (simp [go_sem]; done) | (simp [go_sem, *]; done) | exact Below.alloc (by assumption) (Below.size (by assumption)) _ | exact set2 (by assumption) (Nat.le_of_lt (Nat.lt_of_le_of_lt (Nat.le_add_right _ _) (by assumption))) _ _ | omega | skip
    case rest =>
      clear x0 x1 xf0 xf1 c0 c1 c2 c3 HB0 k1 k2 k5 kx kx2
      obtain ⟨by_, rfl, hby, y0, y1, yf0, yf1, c0, c1, c2, c3, x0, x1, xf0, xf1, nxy, HB0⟩ := hcut
      have nyx : ¬ bx = by_ := fun e => nxy e.symm
      have e_bx : ¬ bx = w.heap.size := by omega
      have f_bx : ¬ bx = w.heap.size + 1 := by omega
      have g_bx : ¬ w.heap.size = bx := by omega
      have h_bx : ¬ w.heap.size + 1 = bx := by omega
      have e_by_ : ¬ by_ = w.heap.size := by omega
      have f_by_ : ¬ by_ = w.heap.size + 1 := by omega
      have g_by_ : ¬ w.heap.size = by_ := by omega
      have h_by_ : ¬ w.heap.size + 1 = by_ := by omega
      clear HSa HSb HMx HMy
      rcases HF.out with ⟨h1, h2, h3, h4, rfl⟩ | ⟨h1, h2, h3, h4, rfl⟩ | ⟨h1, h2, h3, h4, L0, rfl⟩ | ⟨h1, h2, h3, h4, L0, L1, rfl⟩ | ⟨h1, h2, h3, h4, L0, L1, rfl⟩ | ⟨h1, h2, h3, h4, L0, rfl⟩ | ⟨h1, h2, h3, h4, L0, L1, rfl⟩ | ⟨h1, h2, h3, h4, L0, L1, rfl⟩
      · clear HF
        go_wp2
        go_ret
        exact ⟨rfl, HB0⟩
      · clear HF
        go_wp2
        go_ret
        exact ⟨rfl, HB0⟩
      · clear HF
        go_wp2_with fail
        refine (L0.out _).mono ?_
        rintro e' z0 ⟨rfl, hb⟩
        have c0_ := kc _ _ hb c0
        have c1_ := kc _ _ hb c1
        have c2_ := kc _ _ hb c2
        have c3_ := kc _ _ hb c3
        have x0_ := kc _ _ hb x0
        have x1_ := kc _ _ hb x1
        have y0_ := kc _ _ hb y0
        have y1_ := kc _ _ hb y1
        have B0 := beyond HB0 hb
        clear hb c0 c1 c2 c3 x0 x1 y0 y1 HB0
        go_wp2_with fail
        go_ret
        exact ⟨rfl, B0⟩
      · clear HF
        go_wp2_with fail
        refine (L0.out _).mono ?_
        rintro e' z0 ⟨rfl, hb⟩
        have c0_ := kc _ _ hb c0
        have c1_ := kc _ _ hb c1
        have c2_ := kc _ _ hb c2
        have c3_ := kc _ _ hb c3
        have x0_ := kc _ _ hb x0
        have x1_ := kc _ _ hb x1
        have y0_ := kc _ _ hb y0
        have y1_ := kc _ _ hb y1
        have B0 := beyond HB0 hb
        clear hb c0 c1 c2 c3 x0 x1 y0 y1 HB0
        go_wp2_with fail
        refine (L1.out _).mono ?_
        rintro e' z1 ⟨rfl, hb⟩
        have c0__ := kc _ _ hb c0_
        have c1__ := kc _ _ hb c1_
        have c2__ := kc _ _ hb c2_
        have c3__ := kc _ _ hb c3_
        have x0__ := kc _ _ hb x0_
        have x1__ := kc _ _ hb x1_
        have y0__ := kc _ _ hb y0_
        have y1__ := kc _ _ hb y1_
        have B1 := beyond B0 hb
        clear hb c0_ c1_ c2_ c3_ x0_ x1_ y0_ y1_ B0
        go_wp2_with fail
        go_ret
        exact ⟨rfl, B1⟩
      · clear HF
        go_wp2_with fail
        refine (L0.out _).mono ?_
        rintro e' z0 ⟨rfl, hb⟩
        have c0_ := kc _ _ hb c0
        have c1_ := kc _ _ hb c1
        have c2_ := kc _ _ hb c2
        have c3_ := kc _ _ hb c3
        have x0_ := kc _ _ hb x0
        have x1_ := kc _ _ hb x1
        have y0_ := kc _ _ hb y0
        have y1_ := kc _ _ hb y1
        have B0 := beyond HB0 hb
        clear hb c0 c1 c2 c3 x0 x1 y0 y1 HB0
        go_wp2_with fail
        refine (L1.out _).mono ?_
        rintro e' z1 ⟨rfl, hb⟩
        have c0__ := kc _ _ hb c0_
        have c1__ := kc _ _ hb c1_
        have c2__ := kc _ _ hb c2_
        have c3__ := kc _ _ hb c3_
        have x0__ := kc _ _ hb x0_
        have x1__ := kc _ _ hb x1_
        have y0__ := kc _ _ hb y0_
        have y1__ := kc _ _ hb y1_
        have B1 := beyond B0 hb
        clear hb c0_ c1_ c2_ c3_ x0_ x1_ y0_ y1_ B0
        go_wp2_with fail
        go_ret
        exact ⟨rfl, B1⟩
      · clear HF
        go_upto_region 7 with (fail)
        have c0s : ((((wc.setCell ⟨bx, 0, none⟩ (.int .u64 yh)).setCell ⟨bx, 1, none⟩ (.int .u64 yl)).setCell ⟨by_, 0, none⟩ (.int .u64 xh)).setCell ⟨by_, 1, none⟩ (.int .u64 xl)).cell? ⟨w.heap.size, 0, none⟩ = some (.int .i64 an) := by simp [go_sem, *]
        have c1s : ((((wc.setCell ⟨bx, 0, none⟩ (.int .u64 yh)).setCell ⟨bx, 1, none⟩ (.int .u64 yl)).setCell ⟨by_, 0, none⟩ (.int .u64 xh)).setCell ⟨by_, 1, none⟩ (.int .u64 xl)).cell? ⟨w.heap.size, 1, none⟩ = some (.int .i64 ad) := by simp [go_sem, *]
        have c2s : ((((wc.setCell ⟨bx, 0, none⟩ (.int .u64 yh)).setCell ⟨bx, 1, none⟩ (.int .u64 yl)).setCell ⟨by_, 0, none⟩ (.int .u64 xh)).setCell ⟨by_, 1, none⟩ (.int .u64 xl)).cell? ⟨w.heap.size + 1, 0, none⟩ = some (.int .i64 bn) := by simp [go_sem, *]
        have c3s : ((((wc.setCell ⟨bx, 0, none⟩ (.int .u64 yh)).setCell ⟨bx, 1, none⟩ (.int .u64 yl)).setCell ⟨by_, 0, none⟩ (.int .u64 xh)).setCell ⟨by_, 1, none⟩ (.int .u64 xl)).cell? ⟨w.heap.size + 1, 1, none⟩ = some (.int .i64 bd) := by simp [go_sem, *]
        have x0s : ((((wc.setCell ⟨bx, 0, none⟩ (.int .u64 yh)).setCell ⟨bx, 1, none⟩ (.int .u64 yl)).setCell ⟨by_, 0, none⟩ (.int .u64 xh)).setCell ⟨by_, 1, none⟩ (.int .u64 xl)).cell? ⟨bx, 0, none⟩ = some (.int .u64 yh) := by simp [go_sem, *]
        have x1s : ((((wc.setCell ⟨bx, 0, none⟩ (.int .u64 yh)).setCell ⟨bx, 1, none⟩ (.int .u64 yl)).setCell ⟨by_, 0, none⟩ (.int .u64 xh)).setCell ⟨by_, 1, none⟩ (.int .u64 xl)).cell? ⟨bx, 1, none⟩ = some (.int .u64 yl) := by simp [go_sem, *]
        have y0s : ((((wc.setCell ⟨bx, 0, none⟩ (.int .u64 yh)).setCell ⟨bx, 1, none⟩ (.int .u64 yl)).setCell ⟨by_, 0, none⟩ (.int .u64 xh)).setCell ⟨by_, 1, none⟩ (.int .u64 xl)).cell? ⟨by_, 0, none⟩ = some (.int .u64 xh) := by simp [go_sem, *]
        have y1s : ((((wc.setCell ⟨bx, 0, none⟩ (.int .u64 yh)).setCell ⟨bx, 1, none⟩ (.int .u64 yl)).setCell ⟨by_, 0, none⟩ (.int .u64 xh)).setCell ⟨by_, 1, none⟩ (.int .u64 xl)).cell? ⟨by_, 1, none⟩ = some (.int .u64 xl) := by simp [go_sem, *]
        have HB0s : Below w.heap.size w ((((wc.setCell ⟨bx, 0, none⟩ (.int .u64 yh)).setCell ⟨bx, 1, none⟩ (.int .u64 yl)).setCell ⟨by_, 0, none⟩ (.int .u64 xh)).setCell ⟨by_, 1, none⟩ (.int .u64 xl)) := set2 (set2 HB0 (by omega) _ _) (by omega) _ _
        clear x0 x1 y0 y1 c0 c1 c2 c3 xf0 xf1 yf0 yf1 HB0
        generalize ((((wc.setCell ⟨bx, 0, none⟩ (.int .u64 yh)).setCell ⟨bx, 1, none⟩ (.int .u64 yl)).setCell ⟨by_, 0, none⟩ (.int .u64 xh)).setCell ⟨by_, 1, none⟩ (.int .u64 xl)) = WT at *
        go_wp2_with fail
        refine (L0.out _).mono ?_
        rintro e' z0 ⟨rfl, hb⟩
        have c0s_ := kc _ _ hb c0s
        have c1s_ := kc _ _ hb c1s
        have c2s_ := kc _ _ hb c2s
        have c3s_ := kc _ _ hb c3s
        have x0s_ := kc _ _ hb x0s
        have x1s_ := kc _ _ hb x1s
        have y0s_ := kc _ _ hb y0s
        have y1s_ := kc _ _ hb y1s
        have B0 := beyond HB0s hb
        clear hb c0s c1s c2s c3s x0s x1s y0s y1s HB0s
        go_wp2_with fail
        go_ret
        exact ⟨rfl, B0⟩
      · clear HF
        go_upto_region 7 with (fail)
        have c0s : ((((wc.setCell ⟨bx, 0, none⟩ (.int .u64 yh)).setCell ⟨bx, 1, none⟩ (.int .u64 yl)).setCell ⟨by_, 0, none⟩ (.int .u64 xh)).setCell ⟨by_, 1, none⟩ (.int .u64 xl)).cell? ⟨w.heap.size, 0, none⟩ = some (.int .i64 an) := by simp [go_sem, *]
        have c1s : ((((wc.setCell ⟨bx, 0, none⟩ (.int .u64 yh)).setCell ⟨bx, 1, none⟩ (.int .u64 yl)).setCell ⟨by_, 0, none⟩ (.int .u64 xh)).setCell ⟨by_, 1, none⟩ (.int .u64 xl)).cell? ⟨w.heap.size, 1, none⟩ = some (.int .i64 ad) := by simp [go_sem, *]
        have c2s : ((((wc.setCell ⟨bx, 0, none⟩ (.int .u64 yh)).setCell ⟨bx, 1, none⟩ (.int .u64 yl)).setCell ⟨by_, 0, none⟩ (.int .u64 xh)).setCell ⟨by_, 1, none⟩ (.int .u64 xl)).cell? ⟨w.heap.size + 1, 0, none⟩ = some (.int .i64 bn) := by simp [go_sem, *]
        have c3s : ((((wc.setCell ⟨bx, 0, none⟩ (.int .u64 yh)).setCell ⟨bx, 1, none⟩ (.int .u64 yl)).setCell ⟨by_, 0, none⟩ (.int .u64 xh)).setCell ⟨by_, 1, none⟩ (.int .u64 xl)).cell? ⟨w.heap.size + 1, 1, none⟩ = some (.int .i64 bd) := by simp [go_sem, *]
        have x0s : ((((wc.setCell ⟨bx, 0, none⟩ (.int .u64 yh)).setCell ⟨bx, 1, none⟩ (.int .u64 yl)).setCell ⟨by_, 0, none⟩ (.int .u64 xh)).setCell ⟨by_, 1, none⟩ (.int .u64 xl)).cell? ⟨bx, 0, none⟩ = some (.int .u64 yh) := by simp [go_sem, *]
        have x1s : ((((wc.setCell ⟨bx, 0, none⟩ (.int .u64 yh)).setCell ⟨bx, 1, none⟩ (.int .u64 yl)).setCell ⟨by_, 0, none⟩ (.int .u64 xh)).setCell ⟨by_, 1, none⟩ (.int .u64 xl)).cell? ⟨bx, 1, none⟩ = some (.int .u64 yl) := by simp [go_sem, *]
        have y0s : ((((wc.setCell ⟨bx, 0, none⟩ (.int .u64 yh)).setCell ⟨bx, 1, none⟩ (.int .u64 yl)).setCell ⟨by_, 0, none⟩ (.int .u64 xh)).setCell ⟨by_, 1, none⟩ (.int .u64 xl)).cell? ⟨by_, 0, none⟩ = some (.int .u64 xh) := by simp [go_sem, *]
        have y1s : ((((wc.setCell ⟨bx, 0, none⟩ (.int .u64 yh)).setCell ⟨bx, 1, none⟩ (.int .u64 yl)).setCell ⟨by_, 0, none⟩ (.int .u64 xh)).setCell ⟨by_, 1, none⟩ (.int .u64 xl)).cell? ⟨by_, 1, none⟩ = some (.int .u64 xl) := by simp [go_sem, *]
        have HB0s : Below w.heap.size w ((((wc.setCell ⟨bx, 0, none⟩ (.int .u64 yh)).setCell ⟨bx, 1, none⟩ (.int .u64 yl)).setCell ⟨by_, 0, none⟩ (.int .u64 xh)).setCell ⟨by_, 1, none⟩ (.int .u64 xl)) := set2 (set2 HB0 (by omega) _ _) (by omega) _ _
        clear x0 x1 y0 y1 c0 c1 c2 c3 xf0 xf1 yf0 yf1 HB0
        generalize ((((wc.setCell ⟨bx, 0, none⟩ (.int .u64 yh)).setCell ⟨bx, 1, none⟩ (.int .u64 yl)).setCell ⟨by_, 0, none⟩ (.int .u64 xh)).setCell ⟨by_, 1, none⟩ (.int .u64 xl)) = WT at *
        go_wp2_with fail
        refine (L0.out _).mono ?_
        rintro e' z0 ⟨rfl, hb⟩
        have c0s_ := kc _ _ hb c0s
        have c1s_ := kc _ _ hb c1s
        have c2s_ := kc _ _ hb c2s
        have c3s_ := kc _ _ hb c3s
        have x0s_ := kc _ _ hb x0s
        have x1s_ := kc _ _ hb x1s
        have y0s_ := kc _ _ hb y0s
        have y1s_ := kc _ _ hb y1s
        have B0 := beyond HB0s hb
        clear hb c0s c1s c2s c3s x0s x1s y0s y1s HB0s
        go_wp2_with fail
        refine (L1.out _).mono ?_
        rintro e' z1 ⟨rfl, hb⟩
        have c0s__ := kc _ _ hb c0s_
        have c1s__ := kc _ _ hb c1s_
        have c2s__ := kc _ _ hb c2s_
        have c3s__ := kc _ _ hb c3s_
        have x0s__ := kc _ _ hb x0s_
        have x1s__ := kc _ _ hb x1s_
        have y0s__ := kc _ _ hb y0s_
        have y1s__ := kc _ _ hb y1s_
        have B1 := beyond B0 hb
        clear hb c0s_ c1s_ c2s_ c3s_ x0s_ x1s_ y0s_ y1s_ B0
        go_wp2_with fail
        go_ret
        exact ⟨rfl, B1⟩
      · clear HF
        go_upto_region 7 with (fail)
        have c0s : ((((wc.setCell ⟨bx, 0, none⟩ (.int .u64 yh)).setCell ⟨bx, 1, none⟩ (.int .u64 yl)).setCell ⟨by_, 0, none⟩ (.int .u64 xh)).setCell ⟨by_, 1, none⟩ (.int .u64 xl)).cell? ⟨w.heap.size, 0, none⟩ = some (.int .i64 an) := by simp [go_sem, *]
        have c1s : ((((wc.setCell ⟨bx, 0, none⟩ (.int .u64 yh)).setCell ⟨bx, 1, none⟩ (.int .u64 yl)).setCell ⟨by_, 0, none⟩ (.int .u64 xh)).setCell ⟨by_, 1, none⟩ (.int .u64 xl)).cell? ⟨w.heap.size, 1, none⟩ = some (.int .i64 ad) := by simp [go_sem, *]
        have c2s : ((((wc.setCell ⟨bx, 0, none⟩ (.int .u64 yh)).setCell ⟨bx, 1, none⟩ (.int .u64 yl)).setCell ⟨by_, 0, none⟩ (.int .u64 xh)).setCell ⟨by_, 1, none⟩ (.int .u64 xl)).cell? ⟨w.heap.size + 1, 0, none⟩ = some (.int .i64 bn) := by simp [go_sem, *]
        have c3s : ((((wc.setCell ⟨bx, 0, none⟩ (.int .u64 yh)).setCell ⟨bx, 1, none⟩ (.int .u64 yl)).setCell ⟨by_, 0, none⟩ (.int .u64 xh)).setCell ⟨by_, 1, none⟩ (.int .u64 xl)).cell? ⟨w.heap.size + 1, 1, none⟩ = some (.int .i64 bd) := by simp [go_sem, *]
        have x0s : ((((wc.setCell ⟨bx, 0, none⟩ (.int .u64 yh)).setCell ⟨bx, 1, none⟩ (.int .u64 yl)).setCell ⟨by_, 0, none⟩ (.int .u64 xh)).setCell ⟨by_, 1, none⟩ (.int .u64 xl)).cell? ⟨bx, 0, none⟩ = some (.int .u64 yh) := by simp [go_sem, *]
        have x1s : ((((wc.setCell ⟨bx, 0, none⟩ (.int .u64 yh)).setCell ⟨bx, 1, none⟩ (.int .u64 yl)).setCell ⟨by_, 0, none⟩ (.int .u64 xh)).setCell ⟨by_, 1, none⟩ (.int .u64 xl)).cell? ⟨bx, 1, none⟩ = some (.int .u64 yl) := by simp [go_sem, *]
        have y0s : ((((wc.setCell ⟨bx, 0, none⟩ (.int .u64 yh)).setCell ⟨bx, 1, none⟩ (.int .u64 yl)).setCell ⟨by_, 0, none⟩ (.int .u64 xh)).setCell ⟨by_, 1, none⟩ (.int .u64 xl)).cell? ⟨by_, 0, none⟩ = some (.int .u64 xh) := by simp [go_sem, *]
        have y1s : ((((wc.setCell ⟨bx, 0, none⟩ (.int .u64 yh)).setCell ⟨bx, 1, none⟩ (.int .u64 yl)).setCell ⟨by_, 0, none⟩ (.int .u64 xh)).setCell ⟨by_, 1, none⟩ (.int .u64 xl)).cell? ⟨by_, 1, none⟩ = some (.int .u64 xl) := by simp [go_sem, *]
        have HB0s : Below w.heap.size w ((((wc.setCell ⟨bx, 0, none⟩ (.int .u64 yh)).setCell ⟨bx, 1, none⟩ (.int .u64 yl)).setCell ⟨by_, 0, none⟩ (.int .u64 xh)).setCell ⟨by_, 1, none⟩ (.int .u64 xl)) := set2 (set2 HB0 (by omega) _ _) (by omega) _ _
        clear x0 x1 y0 y1 c0 c1 c2 c3 xf0 xf1 yf0 yf1 HB0
        generalize ((((wc.setCell ⟨bx, 0, none⟩ (.int .u64 yh)).setCell ⟨bx, 1, none⟩ (.int .u64 yl)).setCell ⟨by_, 0, none⟩ (.int .u64 xh)).setCell ⟨by_, 1, none⟩ (.int .u64 xl)) = WT at *
        go_wp2_with fail
        refine (L0.out _).mono ?_
        rintro e' z0 ⟨rfl, hb⟩
        have c0s_ := kc _ _ hb c0s
        have c1s_ := kc _ _ hb c1s
        have c2s_ := kc _ _ hb c2s
        have c3s_ := kc _ _ hb c3s
        have x0s_ := kc _ _ hb x0s
        have x1s_ := kc _ _ hb x1s
        have y0s_ := kc _ _ hb y0s
        have y1s_ := kc _ _ hb y1s
        have B0 := beyond HB0s hb
        clear hb c0s c1s c2s c3s x0s x1s y0s y1s HB0s
        go_wp2_with fail
        refine (L1.out _).mono ?_
        rintro e' z1 ⟨rfl, hb⟩
        have c0s__ := kc _ _ hb c0s_
        have c1s__ := kc _ _ hb c1s_
        have c2s__ := kc _ _ hb c2s_
        have c3s__ := kc _ _ hb c3s_
        have x0s__ := kc _ _ hb x0s_
        have x1s__ := kc _ _ hb x1s_
        have y0s__ := kc _ _ hb y0s_
        have y1s__ := kc _ _ hb y1s_
        have B1 := beyond B0 hb
        clear hb c0s_ c1s_ c2s_ c3s_ x0s_ x1s_ y0s_ y1s_ B0
        go_wp2_with fail
        go_ret
        exact ⟨rfl, B1⟩
end Go.Proofs.YtnfkmpickmonoaaGreat
