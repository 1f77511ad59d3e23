/-
  The contracts of the document's Compare of fractions, by signs.
-/
import Derived.Test.YtondgencdcimjaaGreatZx
import Derived.Test.YtondgencdcimjaaGreatZv
namespace Go.Proofs.YtondgencdcimjaaGreat
open Go.RowKit Go.Shelf
set_option linter.unusedVariables false
theorem set_fz {W : World} {b c o : Nat} {x y : Value} (h : W.frozen? ⟨c, o, none⟩ = false) : ((W.setCell ⟨b, 0, none⟩ x).setCell ⟨b, 1, none⟩ y).frozen? ⟨c, o, none⟩ = false := by
  simp [go_sem, *]
set_option maxRecDepth 100000 in
set_option maxHeartbeats 4000000 in
theorem xcompare_raw (an ad bn bd sa sb xh xl yh yl r : Int) (w : World)
    (wa : IntKind.u64.wrap ad = ad) (wb : IntKind.u64.wrap bd = bd)
    (HRa : Hid (∀ w, Calls Tryz.prog 39 #[rv an ad] w fun e w' => e = .returned (.bool true) ∧ Below w.heap.size w w'))
    (HRb : Hid (∀ w, Calls Tryz.prog 39 #[rv bn bd] w fun e w' => e = .returned (.bool true) ∧ Below w.heap.size w w'))
    (HSa : Hid (∀ w, Calls Tryz.prog 111 #[.int .i64 an] w fun e w' => e = .returned (.int .u64 sa) ∧ w' = w))
    (HSb : Hid (∀ w, Calls Tryz.prog 111 #[.int .i64 bn] w fun e w' => e = .returned (.int .u64 sb) ∧ w' = w))
    (HMx : Hid (∀ w, Calls Tryz.prog 150 #[.int .u64 sa, .int .u64 bd] w fun e w' => e = .returned (.agg #[.int .u64 xh, .int .u64 xl]) ∧ Below w.heap.size w w'))
    (HMy : Hid (∀ w, Calls Tryz.prog 150 #[.int .u64 sb, .int .u64 ad] w fun e w' => e = .returned (.agg #[.int .u64 yh, .int .u64 yl]) ∧ Below w.heap.size w w'))
    (HF : Hid ((an < 0 ∧ decide (0 ≤ an) = false ∧ decide (bn < 0) = false ∧ 0 ≤ bn ∧ r = -1) ∨
      (decide (an < 0) = false ∧ 0 ≤ an ∧ bn < 0 ∧ decide (0 ≤ bn) = false ∧ r = 1) ∨
      (decide (an < 0) = false ∧ 0 ≤ an ∧ decide (bn < 0) = false ∧ 0 ≤ bn ∧ Hid (∀ w, Calls Tryz.prog 152 #[.agg #[.int .u64 xh, .int .u64 xl], .agg #[.int .u64 yh, .int .u64 yl]] w fun e w' => e = .returned (.bool true) ∧ Below w.heap.size w w') ∧ r = -1) ∨
      (decide (an < 0) = false ∧ 0 ≤ an ∧ decide (bn < 0) = false ∧ 0 ≤ bn ∧ Hid (∀ w, Calls Tryz.prog 152 #[.agg #[.int .u64 xh, .int .u64 xl], .agg #[.int .u64 yh, .int .u64 yl]] w fun e w' => e = .returned (.bool false) ∧ Below w.heap.size w w') ∧ Hid (∀ w, Calls Tryz.prog 152 #[.agg #[.int .u64 yh, .int .u64 yl], .agg #[.int .u64 xh, .int .u64 xl]] w fun e w' => e = .returned (.bool true) ∧ Below w.heap.size w w') ∧ r = 1) ∨
      (decide (an < 0) = false ∧ 0 ≤ an ∧ decide (bn < 0) = false ∧ 0 ≤ bn ∧ Hid (∀ w, Calls Tryz.prog 152 #[.agg #[.int .u64 xh, .int .u64 xl], .agg #[.int .u64 yh, .int .u64 yl]] w fun e w' => e = .returned (.bool false) ∧ Below w.heap.size w w') ∧ Hid (∀ w, Calls Tryz.prog 152 #[.agg #[.int .u64 yh, .int .u64 yl], .agg #[.int .u64 xh, .int .u64 xl]] w fun e w' => e = .returned (.bool false) ∧ Below w.heap.size w w') ∧ r = 0) ∨
      (an < 0 ∧ decide (0 ≤ an) = false ∧ bn < 0 ∧ decide (0 ≤ bn) = false ∧ Hid (∀ w, Calls Tryz.prog 152 #[.agg #[.int .u64 yh, .int .u64 yl], .agg #[.int .u64 xh, .int .u64 xl]] w fun e w' => e = .returned (.bool true) ∧ Below w.heap.size w w') ∧ r = -1) ∨
      (an < 0 ∧ decide (0 ≤ an) = false ∧ bn < 0 ∧ decide (0 ≤ bn) = false ∧ Hid (∀ w, Calls Tryz.prog 152 #[.agg #[.int .u64 yh, .int .u64 yl], .agg #[.int .u64 xh, .int .u64 xl]] w fun e w' => e = .returned (.bool false) ∧ Below w.heap.size w w') ∧ Hid (∀ w, Calls Tryz.prog 152 #[.agg #[.int .u64 xh, .int .u64 xl], .agg #[.int .u64 yh, .int .u64 yl]] w fun e w' => e = .returned (.bool true) ∧ Below w.heap.size w w') ∧ r = 1) ∨
      (an < 0 ∧ decide (0 ≤ an) = false ∧ bn < 0 ∧ decide (0 ≤ bn) = false ∧ Hid (∀ w, Calls Tryz.prog 152 #[.agg #[.int .u64 yh, .int .u64 yl], .agg #[.int .u64 xh, .int .u64 xl]] w fun e w' => e = .returned (.bool false) ∧ Below w.heap.size w w') ∧ Hid (∀ w, Calls Tryz.prog 152 #[.agg #[.int .u64 xh, .int .u64 xl], .agg #[.int .u64 yh, .int .u64 yl]] w fun e w' => e = .returned (.bool false) ∧ Below w.heap.size w w') ∧ r = 0)))  :
    Calls Tryz.prog 118 #[rv an ad, rv bn bd] w fun e w' => e = .returned (.int .i64 r) ∧ Below w.heap.size w w' := by
  go_enter Tryz.func118, Tryz.ntmps118
  go_wp2_with fail
  refine (HRa.out _).mono ?_
  rintro e' w1 ⟨rfl, hb⟩
  have a0 := kc ⟨w.heap.size, 0, none⟩ (.int .i64 an) hb (by first | assumption | simp [go_sem, *])
  have a1 := kc ⟨w.heap.size, 1, none⟩ (.int .i64 ad) hb (by first | assumption | simp [go_sem, *])
  have a2 := kc ⟨w.heap.size + 1, 0, none⟩ (.int .i64 bn) hb (by first | assumption | simp [go_sem, *])
  have a3 := kc ⟨w.heap.size + 1, 1, none⟩ (.int .i64 bd) hb (by first | assumption | simp [go_sem, *])
  have hB1 : Below w.heap.size w w1 := beyond (two w _ _) hb
  clear hb
  go_wp2_with fail
  refine (HRb.out _).mono ?_
  rintro e' W ⟨rfl, hb⟩
  have c0 := kc _ _ hb a0
  have c1 := kc _ _ hb a1
  have c2 := kc _ _ hb a2
  have c3 := kc _ _ hb a3
  have HB0 : Below w.heap.size w W := beyond hB1 hb
  clear hb hB1 a0 a1 a2 a3 HRa HRb
  have k6 := World.block_lt_of_cell? _ _ c2
  have k5 : w.heap.size + 1 < W.heap.size := k6
  have k1 : ¬ W.heap.size = w.heap.size := by omega
  have k2 : ¬ W.heap.size = w.heap.size + 1 := by omega
  clear k6
  go_upto_region 3 with (fail)
  go_cut [5] (fun t w' => ∃ bx : Nat, t = .pointer (some ⟨bx, 0, none⟩) ∧ w.heap.size + 1 < bx ∧ w'.cell? ⟨bx, 0, none⟩ = some (.int .u64 xh) ∧ w'.cell? ⟨bx, 1, none⟩ = some (.int .u64 xl) ∧ w'.frozen? ⟨bx, 0, none⟩ = false ∧ w'.frozen? ⟨bx, 1, none⟩ = false ∧ w'.cell? ⟨w.heap.size, 0, none⟩ = some (.int .i64 an) ∧ w'.cell? ⟨w.heap.size, 1, none⟩ = some (.int .i64 ad) ∧ w'.cell? ⟨w.heap.size + 1, 0, none⟩ = some (.int .i64 bn) ∧ w'.cell? ⟨w.heap.size + 1, 1, none⟩ = some (.int .i64 bd) ∧ Below w.heap.size w w')
  case first =>
    go_region_held3 (fun w' => w'.cell? ⟨w.heap.size, 0, none⟩ = some (.int .i64 an) ∧ w'.cell? ⟨w.heap.size, 1, none⟩ = some (.int .i64 ad) ∧ w'.cell? ⟨w.heap.size + 1, 0, none⟩ = some (.int .i64 bn) ∧ w'.cell? ⟨w.heap.size + 1, 1, none⟩ = some (.int .i64 bd))
      (first | exact ⟨by assumption, by assumption, by assumption, by assumption⟩ | go_keep)
      (first
        | (go_at_call 111; refine (HSa.out _).mono ?_; rintro e' w' ⟨rfl, rfl⟩)
        | (go_at_call 150; refine (HMx.out _).mono ?_; rintro e' w' ⟨rfl, hb⟩; have v0 := kc ⟨w.heap.size, 0, none⟩ (.int .i64 an) hb (by first | assumption | simp [go_sem, *]); have v1 := kc ⟨w.heap.size, 1, none⟩ (.int .i64 ad) hb (by first | assumption | simp [go_sem, *]); have v2 := kc ⟨w.heap.size + 1, 0, none⟩ (.int .i64 bn) hb (by first | assumption | simp [go_sem, *]); have v3 := kc ⟨w.heap.size + 1, 1, none⟩ (.int .i64 bd) hb (by first | assumption | simp [go_sem, *]); (first | (with_reducible (have zz := newPair hb); obtain ⟨z0, z1, q0, q1, q2, q3⟩ := zz) | (with_reducible (have zz := newPairD hb); obtain ⟨z0, z1, q0, q1, q2, q3⟩ := zz) | (with_reducible (have zz := newPairI hb); obtain ⟨z0, z1, q0, q1, q2, q3⟩ := zz) | skip); have hX := beyond (w := w) (by first | assumption | exact Below.drew (by assumption) | exact Below.alloc (by assumption) (Below.size (by assumption)) _ | exact Below.alloc (Below.drew (by assumption)) (Below.size (by assumption)) _ | exact Below.drew (Below.alloc (by assumption) (Below.size (by assumption)) _)) hb; have l5 : w.heap.size + 1 < w'.heap.size := World.block_lt_of_cell? _ _ v2; have l2 : ¬ w'.heap.size = w.heap.size := (by omega); have l3 : ¬ w'.heap.size = w.heap.size + 1 := (by omega)))
    all_goals go_wp2_with fail
    all_goals go_meet
    all_goals refine ⟨_, rfl, ?_, ?_, ?_, ?_, ?_, ?_, ?_, ?_, ?_, ?_⟩
    all_goals first | with_reducible assumption | with_reducible exact set_other (by assumption) (by assumption) | with_reducible exact set_fz (by assumption) | with_reducible exact kc _ _ (single _ _) (by assumption) | (simp [go_sem]; done) | (simp [go_sem, *]; done) | exact Below.alloc (by assumption) (Below.size (by assumption)) _ | exact set2 (by assumption) (Nat.le_of_lt (Nat.lt_of_le_of_lt (Nat.le_add_right _ _) (by assumption))) _ _ | omega | skip
  case rest =>
    clear c0 c1 c2 c3 HB0 k1 k2 k5
    obtain ⟨bx, rfl, hbx, x0, x1, xf0, xf1, c0, c1, c2, c3, HB0⟩ := hcut
    go_upto_region 4 with (fail)
    have k6 := World.block_lt_of_cell? _ _ c2
    have k5 : w.heap.size + 1 < wc.heap.size := k6
    have k1 : ¬ wc.heap.size = w.heap.size := by omega
    have k2 : ¬ wc.heap.size = w.heap.size + 1 := by omega
    clear k6
    have kx : bx < wc.heap.size := World.block_lt_of_cell? _ _ x0
    have kx2 : ¬ wc.heap.size = bx := by omega
    go_cut [6] (fun t w' => ∃ by_ : Nat, t = .pointer (some ⟨by_, 0, none⟩) ∧ w.heap.size + 1 < by_ ∧ w'.cell? ⟨by_, 0, none⟩ = some (.int .u64 yh) ∧ w'.cell? ⟨by_, 1, none⟩ = some (.int .u64 yl) ∧ w'.frozen? ⟨by_, 0, none⟩ = false ∧ w'.frozen? ⟨by_, 1, none⟩ = false ∧ w'.cell? ⟨w.heap.size, 0, none⟩ = some (.int .i64 an) ∧ w'.cell? ⟨w.heap.size, 1, none⟩ = some (.int .i64 ad) ∧ w'.cell? ⟨w.heap.size + 1, 0, none⟩ = some (.int .i64 bn) ∧ w'.cell? ⟨w.heap.size + 1, 1, none⟩ = some (.int .i64 bd) ∧ w'.cell? ⟨bx, 0, none⟩ = some (.int .u64 xh) ∧ w'.cell? ⟨bx, 1, none⟩ = some (.int .u64 xl) ∧ w'.frozen? ⟨bx, 0, none⟩ = false ∧ w'.frozen? ⟨bx, 1, none⟩ = false ∧ ¬ by_ = bx ∧ Below w.heap.size w w')
    case first =>
      go_region_held3 (fun w' => w'.cell? ⟨w.heap.size, 0, none⟩ = some (.int .i64 an) ∧ w'.cell? ⟨w.heap.size, 1, none⟩ = some (.int .i64 ad) ∧ w'.cell? ⟨w.heap.size + 1, 0, none⟩ = some (.int .i64 bn) ∧ w'.cell? ⟨w.heap.size + 1, 1, none⟩ = some (.int .i64 bd))
        (first | exact ⟨by assumption, by assumption, by assumption, by assumption⟩ | go_keep)
        (first
          | (go_at_call 111; refine (HSb.out _).mono ?_; rintro e' w' ⟨rfl, rfl⟩)
          | (go_at_call 150; refine (HMy.out _).mono ?_; rintro e' w' ⟨rfl, hb⟩; have v0 := kc ⟨w.heap.size, 0, none⟩ (.int .i64 an) hb (by first | assumption | simp [go_sem, *]); have v1 := kc ⟨w.heap.size, 1, none⟩ (.int .i64 ad) hb (by first | assumption | simp [go_sem, *]); have v2 := kc ⟨w.heap.size + 1, 0, none⟩ (.int .i64 bn) hb (by first | assumption | simp [go_sem, *]); have v3 := kc ⟨w.heap.size + 1, 1, none⟩ (.int .i64 bd) hb (by first | assumption | simp [go_sem, *]); have v4 := kc ⟨bx, 0, none⟩ (.int .u64 xh) hb (by first | assumption | simp [go_sem, *]); have v5 := kc ⟨bx, 1, none⟩ (.int .u64 xl) hb (by first | assumption | simp [go_sem, *]); have vf0 := kf ⟨bx, 0, none⟩ (.int .u64 xh) hb (by first | assumption | simp [go_sem, *]) (by first | assumption | simp [go_sem, *]); have vf1 := kf ⟨bx, 1, none⟩ (.int .u64 xl) hb (by first | assumption | simp [go_sem, *]) (by first | assumption | simp [go_sem, *]); (first | (with_reducible (have zz := newPair hb); obtain ⟨z0, z1, q0, q1, q2, q3⟩ := zz) | (with_reducible (have zz := newPairD hb); obtain ⟨z0, z1, q0, q1, q2, q3⟩ := zz) | (with_reducible (have zz := newPairI hb); obtain ⟨z0, z1, q0, q1, q2, q3⟩ := zz) | skip); have hX := beyond (w := w) (by first | assumption | exact Below.drew (by assumption) | exact Below.alloc (by assumption) (Below.size (by assumption)) _ | exact Below.alloc (Below.drew (by assumption)) (Below.size (by assumption)) _ | exact Below.drew (Below.alloc (by assumption) (Below.size (by assumption)) _)) hb; have l5 : w.heap.size + 1 < w'.heap.size := World.block_lt_of_cell? _ _ v2; have l2 : ¬ w'.heap.size = w.heap.size := (by omega); have l3 : ¬ w'.heap.size = w.heap.size + 1 := (by omega); have lx_bx : bx < w'.heap.size := World.block_lt_of_cell? _ _ v4; have ly_bx : ¬ w'.heap.size = bx := (by omega)))
      all_goals go_wp2_with fail
      all_goals go_meet
      all_goals refine ⟨_, rfl, ?_, ?_, ?_, ?_, ?_, ?_, ?_, ?_, ?_, ?_, ?_, ?_, ?_, ?_, ?_⟩
      all_goals first | with_reducible assumption | with_reducible exact set_other (by assumption) (by assumption) | with_reducible exact set_fz (by assumption) | with_reducible exact kc _ _ (single _ _) (by assumption) | (simp [go_sem]; done) | (simp [go_sem, *]; done) | exact Below.alloc (by assumption) (Below.size (by assumption)) _ | exact set2 (by assumption) (Nat.le_of_lt (Nat.lt_of_le_of_lt (Nat.le_add_right _ _) (by assumption))) _ _ | omega | skip
    case rest =>
      clear x0 x1 xf0 xf1 c0 c1 c2 c3 HB0 k1 k2 k5 kx kx2
      obtain ⟨by_, rfl, hby, y0, y1, yf0, yf1, c0, c1, c2, c3, x0, x1, xf0, xf1, nxy, HB0⟩ := hcut
      have nyx : ¬ bx = by_ := fun e => nxy e.symm
      have e_bx : ¬ bx = w.heap.size := by omega
      have f_bx : ¬ bx = w.heap.size + 1 := by omega
      have g_bx : ¬ w.heap.size = bx := by omega
      have h_bx : ¬ w.heap.size + 1 = bx := by omega
      have e_by_ : ¬ by_ = w.heap.size := by omega
      have f_by_ : ¬ by_ = w.heap.size + 1 := by omega
      have g_by_ : ¬ w.heap.size = by_ := by omega
      have h_by_ : ¬ w.heap.size + 1 = by_ := by omega
      clear HSa HSb HMx HMy
      rcases HF.out with ⟨h1, h2, h3, h4, rfl⟩ | ⟨h1, h2, h3, h4, rfl⟩ | ⟨h1, h2, h3, h4, L0, rfl⟩ | ⟨h1, h2, h3, h4, L0, L1, rfl⟩ | ⟨h1, h2, h3, h4, L0, L1, rfl⟩ | ⟨h1, h2, h3, h4, L0, rfl⟩ | ⟨h1, h2, h3, h4, L0, L1, rfl⟩ | ⟨h1, h2, h3, h4, L0, L1, rfl⟩
      · clear HF
        go_wp2
        go_ret
        exact ⟨rfl, HB0⟩
      · clear HF
        go_wp2
        go_ret
        exact ⟨rfl, HB0⟩
      · clear HF
        go_wp2_with fail
        refine (L0.out _).mono ?_
        rintro e' z0 ⟨rfl, hb⟩
        have c0_ := kc _ _ hb c0
        have c1_ := kc _ _ hb c1
        have c2_ := kc _ _ hb c2
        have c3_ := kc _ _ hb c3
        have x0_ := kc _ _ hb x0
        have x1_ := kc _ _ hb x1
        have y0_ := kc _ _ hb y0
        have y1_ := kc _ _ hb y1
        have B0 := beyond HB0 hb
        clear hb c0 c1 c2 c3 x0 x1 y0 y1 HB0
        go_wp2_with fail
        go_ret
        exact ⟨rfl, B0⟩
      · clear HF
        go_wp2_with fail
        refine (L0.out _).mono ?_
        rintro e' z0 ⟨rfl, hb⟩
        have c0_ := kc _ _ hb c0
        have c1_ := kc _ _ hb c1
        have c2_ := kc _ _ hb c2
        have c3_ := kc _ _ hb c3
        have x0_ := kc _ _ hb x0
        have x1_ := kc _ _ hb x1
        have y0_ := kc _ _ hb y0
        have y1_ := kc _ _ hb y1
        have B0 := beyond HB0 hb
        clear hb c0 c1 c2 c3 x0 x1 y0 y1 HB0
        go_wp2_with fail
        refine (L1.out _).mono ?_
        rintro e' z1 ⟨rfl, hb⟩
        have c0__ := kc _ _ hb c0_
        have c1__ := kc _ _ hb c1_
        have c2__ := kc _ _ hb c2_
        have c3__ := kc _ _ hb c3_
        have x0__ := kc _ _ hb x0_
        have x1__ := kc _ _ hb x1_
        have y0__ := kc _ _ hb y0_
        have y1__ := kc _ _ hb y1_
        have B1 := beyond B0 hb
        clear hb c0_ c1_ c2_ c3_ x0_ x1_ y0_ y1_ B0
        go_wp2_with fail
        go_ret
        exact ⟨rfl, B1⟩
      · clear HF
        go_wp2_with fail
        refine (L0.out _).mono ?_
        rintro e' z0 ⟨rfl, hb⟩
        have c0_ := kc _ _ hb c0
        have c1_ := kc _ _ hb c1
        have c2_ := kc _ _ hb c2
        have c3_ := kc _ _ hb c3
        have x0_ := kc _ _ hb x0
        have x1_ := kc _ _ hb x1
        have y0_ := kc _ _ hb y0
        have y1_ := kc _ _ hb y1
        have B0 := beyond HB0 hb
        clear hb c0 c1 c2 c3 x0 x1 y0 y1 HB0
        go_wp2_with fail
        refine (L1.out _).mono ?_
        rintro e' z1 ⟨rfl, hb⟩
        have c0__ := kc _ _ hb c0_
        have c1__ := kc _ _ hb c1_
        have c2__ := kc _ _ hb c2_
        have c3__ := kc _ _ hb c3_
        have x0__ := kc _ _ hb x0_
        have x1__ := kc _ _ hb x1_
        have y0__ := kc _ _ hb y0_
        have y1__ := kc _ _ hb y1_
        have B1 := beyond B0 hb
        clear hb c0_ c1_ c2_ c3_ x0_ x1_ y0_ y1_ B0
        go_wp2_with fail
        go_ret
        exact ⟨rfl, B1⟩
      · clear HF
        go_upto_region 7 with (fail)
        have c0s : ((((wc.setCell ⟨bx, 0, none⟩ (.int .u64 yh)).setCell ⟨bx, 1, none⟩ (.int .u64 yl)).setCell ⟨by_, 0, none⟩ (.int .u64 xh)).setCell ⟨by_, 1, none⟩ (.int .u64 xl)).cell? ⟨w.heap.size, 0, none⟩ = some (.int .i64 an) := by simp [go_sem, *]
        have c1s : ((((wc.setCell ⟨bx, 0, none⟩ (.int .u64 yh)).setCell ⟨bx, 1, none⟩ (.int .u64 yl)).setCell ⟨by_, 0, none⟩ (.int .u64 xh)).setCell ⟨by_, 1, none⟩ (.int .u64 xl)).cell? ⟨w.heap.size, 1, none⟩ = some (.int .i64 ad) := by simp [go_sem, *]
        have c2s : ((((wc.setCell ⟨bx, 0, none⟩ (.int .u64 yh)).setCell ⟨bx, 1, none⟩ (.int .u64 yl)).setCell ⟨by_, 0, none⟩ (.int .u64 xh)).setCell ⟨by_, 1, none⟩ (.int .u64 xl)).cell? ⟨w.heap.size + 1, 0, none⟩ = some (.int .i64 bn) := by simp [go_sem, *]
        have c3s : ((((wc.setCell ⟨bx, 0, none⟩ (.int .u64 yh)).setCell ⟨bx, 1, none⟩ (.int .u64 yl)).setCell ⟨by_, 0, none⟩ (.int .u64 xh)).setCell ⟨by_, 1, none⟩ (.int .u64 xl)).cell? ⟨w.heap.size + 1, 1, none⟩ = some (.int .i64 bd) := by simp [go_sem, *]
        have x0s : ((((wc.setCell ⟨bx, 0, none⟩ (.int .u64 yh)).setCell ⟨bx, 1, none⟩ (.int .u64 yl)).setCell ⟨by_, 0, none⟩ (.int .u64 xh)).setCell ⟨by_, 1, none⟩ (.int .u64 xl)).cell? ⟨bx, 0, none⟩ = some (.int .u64 yh) := by simp [go_sem, *]
        have x1s : ((((wc.setCell ⟨bx, 0, none⟩ (.int .u64 yh)).setCell ⟨bx, 1, none⟩ (.int .u64 yl)).setCell ⟨by_, 0, none⟩ (.int .u64 xh)).setCell ⟨by_, 1, none⟩ (.int .u64 xl)).cell? ⟨bx, 1, none⟩ = some (.int .u64 yl) := by simp [go_sem, *]
        have y0s : ((((wc.setCell ⟨bx, 0, none⟩ (.int .u64 yh)).setCell ⟨bx, 1, none⟩ (.int .u64 yl)).setCell ⟨by_, 0, none⟩ (.int .u64 xh)).setCell ⟨by_, 1, none⟩ (.int .u64 xl)).cell? ⟨by_, 0, none⟩ = some (.int .u64 xh) := by simp [go_sem, *]
        have y1s : ((((wc.setCell ⟨bx, 0, none⟩ (.int .u64 yh)).setCell ⟨bx, 1, none⟩ (.int .u64 yl)).setCell ⟨by_, 0, none⟩ (.int .u64 xh)).setCell ⟨by_, 1, none⟩ (.int .u64 xl)).cell? ⟨by_, 1, none⟩ = some (.int .u64 xl) := by simp [go_sem, *]
        have HB0s : Below w.heap.size w ((((wc.setCell ⟨bx, 0, none⟩ (.int .u64 yh)).setCell ⟨bx, 1, none⟩ (.int .u64 yl)).setCell ⟨by_, 0, none⟩ (.int .u64 xh)).setCell ⟨by_, 1, none⟩ (.int .u64 xl)) := set2 (set2 HB0 (by omega) _ _) (by omega) _ _
        clear x0 x1 y0 y1 c0 c1 c2 c3 xf0 xf1 yf0 yf1 HB0
        generalize ((((wc.setCell ⟨bx, 0, none⟩ (.int .u64 yh)).setCell ⟨bx, 1, none⟩ (.int .u64 yl)).setCell ⟨by_, 0, none⟩ (.int .u64 xh)).setCell ⟨by_, 1, none⟩ (.int .u64 xl)) = WT at *
        go_wp2_with fail
        refine (L0.out _).mono ?_
        rintro e' z0 ⟨rfl, hb⟩
        have c0s_ := kc _ _ hb c0s
        have c1s_ := kc _ _ hb c1s
        have c2s_ := kc _ _ hb c2s
        have c3s_ := kc _ _ hb c3s
        have x0s_ := kc _ _ hb x0s
        have x1s_ := kc _ _ hb x1s
        have y0s_ := kc _ _ hb y0s
        have y1s_ := kc _ _ hb y1s
        have B0 := beyond HB0s hb
        clear hb c0s c1s c2s c3s x0s x1s y0s y1s HB0s
        go_wp2_with fail
        go_ret
        exact ⟨rfl, B0⟩
      · clear HF
        go_upto_region 7 with (fail)
        have c0s : ((((wc.setCell ⟨bx, 0, none⟩ (.int .u64 yh)).setCell ⟨bx, 1, none⟩ (.int .u64 yl)).setCell ⟨by_, 0, none⟩ (.int .u64 xh)).setCell ⟨by_, 1, none⟩ (.int .u64 xl)).cell? ⟨w.heap.size, 0, none⟩ = some (.int .i64 an) := by simp [go_sem, *]
        have c1s : ((((wc.setCell ⟨bx, 0, none⟩ (.int .u64 yh)).setCell ⟨bx, 1, none⟩ (.int .u64 yl)).setCell ⟨by_, 0, none⟩ (.int .u64 xh)).setCell ⟨by_, 1, none⟩ (.int .u64 xl)).cell? ⟨w.heap.size, 1, none⟩ = some (.int .i64 ad) := by simp [go_sem, *]
        have c2s : ((((wc.setCell ⟨bx, 0, none⟩ (.int .u64 yh)).setCell ⟨bx, 1, none⟩ (.int .u64 yl)).setCell ⟨by_, 0, none⟩ (.int .u64 xh)).setCell ⟨by_, 1, none⟩ (.int .u64 xl)).cell? ⟨w.heap.size + 1, 0, none⟩ = some (.int .i64 bn) := by simp [go_sem, *]
        have c3s : ((((wc.setCell ⟨bx, 0, none⟩ (.int .u64 yh)).setCell ⟨bx, 1, none⟩ (.int .u64 yl)).setCell ⟨by_, 0, none⟩ (.int .u64 xh)).setCell ⟨by_, 1, none⟩ (.int .u64 xl)).cell? ⟨w.heap.size + 1, 1, none⟩ = some (.int .i64 bd) := by simp [go_sem, *]
        have x0s : ((((wc.setCell ⟨bx, 0, none⟩ (.int .u64 yh)).setCell ⟨bx, 1, none⟩ (.int .u64 yl)).setCell ⟨by_, 0, none⟩ (.int .u64 xh)).setCell ⟨by_, 1, none⟩ (.int .u64 xl)).cell? ⟨bx, 0, none⟩ = some (.int .u64 yh) := by simp [go_sem, *]
        have x1s : ((((wc.setCell ⟨bx, 0, none⟩ (.int .u64 yh)).setCell ⟨bx, 1, none⟩ (.int .u64 yl)).setCell ⟨by_, 0, none⟩ (.int .u64 xh)).setCell ⟨by_, 1, none⟩ (.int .u64 xl)).cell? ⟨bx, 1, none⟩ = some (.int .u64 yl) := by simp [go_sem, *]
        have y0s : ((((wc.setCell ⟨bx, 0, none⟩ (.int .u64 yh)).setCell ⟨bx, 1, none⟩ (.int .u64 yl)).setCell ⟨by_, 0, none⟩ (.int .u64 xh)).setCell ⟨by_, 1, none⟩ (.int .u64 xl)).cell? ⟨by_, 0, none⟩ = some (.int .u64 xh) := by simp [go_sem, *]
        have y1s : ((((wc.setCell ⟨bx, 0, none⟩ (.int .u64 yh)).setCell ⟨bx, 1, none⟩ (.int .u64 yl)).setCell ⟨by_, 0, none⟩ (.int .u64 xh)).setCell ⟨by_, 1, none⟩ (.int .u64 xl)).cell? ⟨by_, 1, none⟩ = some (.int .u64 xl) := by simp [go_sem, *]
        have HB0s : Below w.heap.size w ((((wc.setCell ⟨bx, 0, none⟩ (.int .u64 yh)).setCell ⟨bx, 1, none⟩ (.int .u64 yl)).setCell ⟨by_, 0, none⟩ (.int .u64 xh)).setCell ⟨by_, 1, none⟩ (.int .u64 xl)) := set2 (set2 HB0 (by omega) _ _) (by omega) _ _
        clear x0 x1 y0 y1 c0 c1 c2 c3 xf0 xf1 yf0 yf1 HB0
        generalize ((((wc.setCell ⟨bx, 0, none⟩ (.int .u64 yh)).setCell ⟨bx, 1, none⟩ (.int .u64 yl)).setCell ⟨by_, 0, none⟩ (.int .u64 xh)).setCell ⟨by_, 1, none⟩ (.int .u64 xl)) = WT at *
        go_wp2_with fail
        refine (L0.out _).mono ?_
        rintro e' z0 ⟨rfl, hb⟩
        have c0s_ := kc _ _ hb c0s
        have c1s_ := kc _ _ hb c1s
        have c2s_ := kc _ _ hb c2s
        have c3s_ := kc _ _ hb c3s
        have x0s_ := kc _ _ hb x0s
        have x1s_ := kc _ _ hb x1s
        have y0s_ := kc _ _ hb y0s
        have y1s_ := kc _ _ hb y1s
        have B0 := beyond HB0s hb
        clear hb c0s c1s c2s c3s x0s x1s y0s y1s HB0s
        go_wp2_with fail
        refine (L1.out _).mono ?_
        rintro e' z1 ⟨rfl, hb⟩
        have c0s__ := kc _ _ hb c0s_
        have c1s__ := kc _ _ hb c1s_
        have c2s__ := kc _ _ hb c2s_
        have c3s__ := kc _ _ hb c3s_
        have x0s__ := kc _ _ hb x0s_
        have x1s__ := kc _ _ hb x1s_
        have y0s__ := kc _ _ hb y0s_
        have y1s__ := kc _ _ hb y1s_
        have B1 := beyond B0 hb
        clear hb c0s_ c1s_ c2s_ c3s_ x0s_ x1s_ y0s_ y1s_ B0
        go_wp2_with fail
        go_ret
        exact ⟨rfl, B1⟩
      · clear HF
        go_upto_region 7 with (fail)
        have c0s : ((((wc.setCell ⟨bx, 0, none⟩ (.int .u64 yh)).setCell ⟨bx, 1, none⟩ (.int .u64 yl)).setCell ⟨by_, 0, none⟩ (.int .u64 xh)).setCell ⟨by_, 1, none⟩ (.int .u64 xl)).cell? ⟨w.heap.size, 0, none⟩ = some (.int .i64 an) := by simp [go_sem, *]
        have c1s : ((((wc.setCell ⟨bx, 0, none⟩ (.int .u64 yh)).setCell ⟨bx, 1, none⟩ (.int .u64 yl)).setCell ⟨by_, 0, none⟩ (.int .u64 xh)).setCell ⟨by_, 1, none⟩ (.int .u64 xl)).cell? ⟨w.heap.size, 1, none⟩ = some (.int .i64 ad) := by simp [go_sem, *]
        have c2s : ((((wc.setCell ⟨bx, 0, none⟩ (.int .u64 yh)).setCell ⟨bx, 1, none⟩ (.int .u64 yl)).setCell ⟨by_, 0, none⟩ (.int .u64 xh)).setCell ⟨by_, 1, none⟩ (.int .u64 xl)).cell? ⟨w.heap.size + 1, 0, none⟩ = some (.int .i64 bn) := by simp [go_sem, *]
        have c3s : ((((wc.setCell ⟨bx, 0, none⟩ (.int .u64 yh)).setCell ⟨bx, 1, none⟩ (.int .u64 yl)).setCell ⟨by_, 0, none⟩ (.int .u64 xh)).setCell ⟨by_, 1, none⟩ (.int .u64 xl)).cell? ⟨w.heap.size + 1, 1, none⟩ = some (.int .i64 bd) := by simp [go_sem, *]
        have x0s : ((((wc.setCell ⟨bx, 0, none⟩ (.int .u64 yh)).setCell ⟨bx, 1, none⟩ (.int .u64 yl)).setCell ⟨by_, 0, none⟩ (.int .u64 xh)).setCell ⟨by_, 1, none⟩ (.int .u64 xl)).cell? ⟨bx, 0, none⟩ = some (.int .u64 yh) := by simp [go_sem, *]
        have x1s : ((((wc.setCell ⟨bx, 0, none⟩ (.int .u64 yh)).setCell ⟨bx, 1, none⟩ (.int .u64 yl)).setCell ⟨by_, 0, none⟩ (.int .u64 xh)).setCell ⟨by_, 1, none⟩ (.int .u64 xl)).cell? ⟨bx, 1, none⟩ = some (.int .u64 yl) := by simp [go_sem, *]
        have y0s : ((((wc.setCell ⟨bx, 0, none⟩ (.int .u64 yh)).setCell ⟨bx, 1, none⟩ (.int .u64 yl)).setCell ⟨by_, 0, none⟩ (.int .u64 xh)).setCell ⟨by_, 1, none⟩ (.int .u64 xl)).cell? ⟨by_, 0, none⟩ = some (.int .u64 xh) := by simp [go_sem, *]
        have y1s : ((((wc.setCell ⟨bx, 0, none⟩ (.int .u64 yh)).setCell ⟨bx, 1, none⟩ (.int .u64 yl)).setCell ⟨by_, 0, none⟩ (.int .u64 xh)).setCell ⟨by_, 1, none⟩ (.int .u64 xl)).cell? ⟨by_, 1, none⟩ = some (.int .u64 xl) := by simp [go_sem, *]
        have HB0s : Below w.heap.size w ((((wc.setCell ⟨bx, 0, none⟩ (.int .u64 yh)).setCell ⟨bx, 1, none⟩ (.int .u64 yl)).setCell ⟨by_, 0, none⟩ (.int .u64 xh)).setCell ⟨by_, 1, none⟩ (.int .u64 xl)) := set2 (set2 HB0 (by omega) _ _) (by omega) _ _
        clear x0 x1 y0 y1 c0 c1 c2 c3 xf0 xf1 yf0 yf1 HB0
        generalize ((((wc.setCell ⟨bx, 0, none⟩ (.int .u64 yh)).setCell ⟨bx, 1, none⟩ (.int .u64 yl)).setCell ⟨by_, 0, none⟩ (.int .u64 xh)).setCell ⟨by_, 1, none⟩ (.int .u64 xl)) = WT at *
        go_wp2_with fail
        refine (L0.out _).mono ?_
        rintro e' z0 ⟨rfl, hb⟩
        have c0s_ := kc _ _ hb c0s
        have c1s_ := kc _ _ hb c1s
        have c2s_ := kc _ _ hb c2s
        have c3s_ := kc _ _ hb c3s
        have x0s_ := kc _ _ hb x0s
        have x1s_ := kc _ _ hb x1s
        have y0s_ := kc _ _ hb y0s
        have y1s_ := kc _ _ hb y1s
        have B0 := beyond HB0s hb
        clear hb c0s c1s c2s c3s x0s x1s y0s y1s HB0s
        go_wp2_with fail
        refine (L1.out _).mono ?_
        rintro e' z1 ⟨rfl, hb⟩
        have c0s__ := kc _ _ hb c0s_
        have c1s__ := kc _ _ hb c1s_
        have c2s__ := kc _ _ hb c2s_
        have c3s__ := kc _ _ hb c3s_
        have x0s__ := kc _ _ hb x0s_
        have x1s__ := kc _ _ hb x1s_
        have y0s__ := kc _ _ hb y0s_
        have y1s__ := kc _ _ hb y1s_
        have B1 := beyond B0 hb
        clear hb c0s_ c1s_ c2s_ c3s_ x0s_ x1s_ y0s_ y1s_ B0
        go_wp2_with fail
        go_ret
        exact ⟨rfl, B1⟩
end Go.Proofs.YtondgencdcimjaaGreat

/-
  The contracts of the document's Add, Sub, Mul, Div and Compare of fractions, for all arguments: what they answer is what the plain functions addT, subT, mulT, divT and cmpV say.
-/
namespace Go.Proofs.YtondgencdcimjaaGreat
open Go.RowKit Go.Shelf
set_option linter.unusedVariables false
theorem bd_mul {a b : Int} (a0 : 0 ≤ a) (a1 : a ≤ 9223372036854775808) (b0 : 0 ≤ b) (b1 : b ≤ 9223372036854775808) : 0 ≤ a * b ∧ a * b ≤ 85070591730234615865843651857942052864 := by
  refine ⟨Int.mul_nonneg a0 b0, ?_⟩
  have h := Int.mul_le_mul a1 b1 b0 (by decide)
  have e : (9223372036854775808 : Int) * 9223372036854775808 = 85070591730234615865843651857942052864 := by decide
  omega
abbrev CallsP (f : FuncId) (X Y Z : Int) : Prop := ∀ w, Calls Tryz.prog f #[wv X, wv Y] w fun e w' => e = .returned (wv Z) ∧ Below w.heap.size w w'
abbrev CallsH (g : Bool) (X D : Int) (t : Int × Int × Int) : Prop := ∀ w, Calls Tryz.prog 133 #[.bool g, wv X, wv D] w fun e w' => e = .returned (trip t) ∧ Below w.heap.size w w'
theorem plus_case (X Y D P : Int) (g : Bool) (x0 : 0 ≤ X) (x1 : X ≤ 85070591730234615865843651857942052864) (y0 : 0 ≤ Y) (y1 : Y ≤ 85070591730234615865843651857942052864) (d0 : 0 < D) (d1 : D ≤ 85070591730234615865843651857942052864) (e : sgn (X + Y) g = P) :
    Hid (CallsP 151 X Y (X + Y)) ∧ Hid (CallsH g (X + Y) D (canR P D)) := by
  subst e
  exact ⟨hideR fun w => xplus_any X Y w ⟨x0, by omega⟩ ⟨y0, by omega⟩ ⟨by omega, by omega⟩, hideR fun w => xheld_can g (X + Y) D w ⟨by omega, by omega⟩ ⟨by omega, by omega⟩ d0⟩
theorem minus_case (X Y D P : Int) (g : Bool) (x0 : 0 ≤ X) (x1 : X ≤ 85070591730234615865843651857942052864) (y0 : 0 ≤ Y) (h : Y ≤ X) (d0 : 0 < D) (d1 : D ≤ 85070591730234615865843651857942052864) (e : sgn (X - Y) g = P) :
    Hid (CallsP 153 X Y (X - Y)) ∧ Hid (CallsH g (X - Y) D (canR P D)) := by
  subst e
  have m : (X - Y) % 340282366920938463463374607431768211456 = X - Y := by omega
  refine ⟨hideR fun w => ?_, hideR fun w => xheld_can g (X - Y) D w ⟨by omega, by omega⟩ ⟨by omega, by omega⟩ d0⟩
  have c := xminus_any X Y w ⟨x0, by omega⟩ ⟨y0, by omega⟩
  rw [m] at c
  exact c
theorem below_case (X Y : Int) (b : Bool) (h : decide (X < Y) = b) : Hid (∀ w, Calls Tryz.prog 152 #[wv X, wv Y] w fun e w' => e = .returned (.bool b) ∧ Below w.heap.size w w') := by
  subst h
  exact hideR fun w => xbelow_any X Y w
theorem dec_lt_f {a : Int} (h : ¬ a < 0) : decide (a < 0) = false ∧ 0 ≤ a := ⟨by simpa using h, by omega⟩
theorem dec_lt_t {a : Int} (h : a < 0) : a < 0 ∧ decide (0 ≤ a) = false := ⟨h, by simp; omega⟩
theorem u64_of {a : Int} (h0 : 0 ≤ a) (h1 : a ≤ 9223372036854775808) : U64 a := ⟨h0, by omega⟩
set_option maxHeartbeats 1000000 in
theorem xsum_any (an ad bn bd : Int) (w : World) (ha : I64 an) (hb : I64 ad) (hc : I64 bn) (hd : I64 bd) (pa : 0 < ad) (pb : 0 < bd) :
    Calls Tryz.prog 112 #[rv an ad, rv bn bd] w fun e w' => e = .returned (trip (canR (an * bd + bn * ad) (ad * bd))) ∧ Below w.heap.size w w' := by
  have s1 := sz_bd an ha.1 ha.2
  have s2 := sz_bd bn hc.1 hc.2
  have a1 : ad ≤ 9223372036854775808 := by have := hb.2; omega
  have b1 : bd ≤ 9223372036854775808 := by have := hd.2; omega
  obtain ⟨x0, x1⟩ := bd_mul s1.1 s1.2 (Int.le_of_lt pb) b1
  obtain ⟨y0, y1⟩ := bd_mul s2.1 s2.2 (Int.le_of_lt pa) a1
  obtain ⟨-, d1⟩ := bd_mul (Int.le_of_lt pa) a1 (Int.le_of_lt pb) b1
  have d0 := Int.mul_pos pa pb
  refine xsum_raw an ad bn bd (sz an) (sz bn) _ _ _ _ _ _ _ w (sz_pos_eq ad (Int.le_of_lt pa) hb.2) (sz_pos_eq bd (Int.le_of_lt pb) hd.2) (fun w => xsize_any an w ha.1 ha.2) (fun w => xsize_any bn w hc.1 hc.2) (fun w => xmul_any (sz an) bd w (u64_of s1.1 s1.2) (u64_of (Int.le_of_lt pb) b1)) (fun w => xmul_any (sz bn) ad w (u64_of s2.1 s2.2) (u64_of (Int.le_of_lt pa) a1)) (fun w => xmul_any ad bd w (u64_of (Int.le_of_lt pa) a1) (u64_of (Int.le_of_lt pb) b1)) (hideR ?_)
  have eX : ¬ an < 0 → sz an * bd = an * bd := fun c => by rw [sz_pos (by omega)]
  have eX' : an < 0 → sz an * bd = -(an * bd) := fun c => by rw [show sz an = -an by simp [sz, c], Int.neg_mul]
  have eY : ¬ bn < 0 → sz bn * ad = bn * ad := fun c => by rw [sz_pos (by omega)]
  have eY' : bn < 0 → sz bn * ad = -(bn * ad) := fun c => by rw [show sz bn = -bn by simp [sz, c], Int.neg_mul]
  generalize sz an * bd = X at *
  generalize sz bn * ad = Y at *
  generalize an * bd = p at *
  generalize bn * ad = q at *
  generalize ad * bd = D at *
  by_cases c1 : an < 0 <;> by_cases c2 : bn < 0
  · obtain ⟨P, H⟩ := plus_case X Y D (p + q) true x0 x1 y0 y1 d0 d1 (by simp only [sgn]; have := eX' c1; have := eY' c2; simp only [if_true]; omega)
    exact Or.inl ⟨_, _, (dec_lt_t c1).1, (dec_lt_t c1).2, (dec_lt_t c2).1, (dec_lt_t c2).2, P, H⟩
  · have u := eX' c1
    have v := eY c2
    by_cases l : X < Y
    · obtain ⟨P, H⟩ := minus_case Y X D (p + q) false y0 y1 x0 (by omega) d0 d1 (by show Y - X = _; omega)
      exact Or.inr (Or.inr (Or.inl ⟨_, _, (dec_lt_t c1).1, (dec_lt_t c1).2, (dec_lt_f c2).1, (dec_lt_f c2).2, below_case X Y true (by simpa using l), P, H⟩))
    · obtain ⟨P, H⟩ := minus_case X Y D (p + q) true x0 x1 y0 (by omega) d0 d1 (by show -(X - Y) = _; omega)
      exact Or.inr (Or.inr (Or.inr (Or.inl ⟨_, _, (dec_lt_t c1).1, (dec_lt_t c1).2, (dec_lt_f c2).1, (dec_lt_f c2).2, below_case X Y false (by simpa using l), P, H⟩)))
  · have u := eX c1
    have v := eY' c2
    by_cases l : X < Y
    · obtain ⟨P, H⟩ := minus_case Y X D (p + q) true y0 y1 x0 (by omega) d0 d1 (by show -(Y - X) = _; omega)
      exact Or.inr (Or.inr (Or.inr (Or.inr (Or.inl ⟨_, _, (dec_lt_f c1).1, (dec_lt_f c1).2, (dec_lt_t c2).1, (dec_lt_t c2).2, below_case X Y true (by simpa using l), P, H⟩))))
    · obtain ⟨P, H⟩ := minus_case X Y D (p + q) false x0 x1 y0 (by omega) d0 d1 (by show X - Y = _; omega)
      exact Or.inr (Or.inr (Or.inr (Or.inr (Or.inr ⟨_, _, (dec_lt_f c1).1, (dec_lt_f c1).2, (dec_lt_t c2).1, (dec_lt_t c2).2, below_case X Y false (by simpa using l), P, H⟩))))
  · obtain ⟨P, H⟩ := plus_case X Y D (p + q) false x0 x1 y0 y1 d0 d1 (by show X + Y = _; have := eX c1; have := eY c2; omega)
    exact Or.inr (Or.inl ⟨_, _, (dec_lt_f c1).1, (dec_lt_f c1).2, (dec_lt_f c2).1, (dec_lt_f c2).2, P, H⟩)
theorem askY (n d : Int) (hn : I64 n) (hd : I64 d) : AskY n d (rightR n d) := fun w => xright_any n d w hn hd
theorem xadd_any (an ad bn bd : Int) (w : World) (ha : I64 an) (hb : I64 ad) (hc : I64 bn) (hd : I64 bd) :
    Calls Tryz.prog 40 #[rv an ad, rv bn bd] w fun e w' => e = .returned (trip (addT an ad bn bd)) ∧ Below w.heap.size w w' := by
  have ka := askY an ad ha hb
  have kb := askY bn bd hc hd
  cases ra : rightR an ad
  · rw [ra] at ka
    have e : addT an ad bn bd = (0, 0, 7) := by simp [addT, ra]
    rw [e]
    exact xadd_not1 an ad bn bd w ka
  · rw [ra] at ka
    cases rb : rightR bn bd
    · rw [rb] at kb
      have e : addT an ad bn bd = (0, 0, 7) := by simp [addT, rb]
      rw [e]
      exact xadd_not2 an ad bn bd w ka kb
    · rw [rb] at kb
      have e : addT an ad bn bd = canR (an * bd + bn * ad) (ad * bd) := by simp [addT, ra, rb]
      rw [e]
      exact xadd_yes an ad bn bd _ w ka kb (fun w => xsum_any an ad bn bd w ha hb hc hd (right_iff.1 ra).1 (right_iff.1 rb).1)
theorem xcmp_not1 (an ad bn bd : Int) (w : World) (HR : Hid (AskY an ad false)) :
    Calls Tryz.prog 118 #[rv an ad, rv bn bd] w fun e w' => e = .returned (.int .i64 0) ∧ Below w.heap.size w w' := by
  go_enter Tryz.func118, Tryz.ntmps118
  go_wp2_with fail
  refine (HR.out _).mono ?_
  rintro e w1 ⟨rfl, hb⟩
  have hB := beyond (two w _ _) hb
  go_wp2_with fail
  go_ret
  exact ⟨rfl, hB⟩
theorem xcmp_not2 (an ad bn bd : Int) (w : World) (HR : Hid (AskY an ad true)) (HR2 : Hid (AskY bn bd false)) :
    Calls Tryz.prog 118 #[rv an ad, rv bn bd] w fun e w' => e = .returned (.int .i64 0) ∧ Below w.heap.size w w' := by
  go_enter Tryz.func118, Tryz.ntmps118
  go_wp2_with fail
  refine (HR.out _).mono ?_
  rintro e w1 ⟨rfl, hb⟩
  have s0 := kc ⟨w.heap.size + 1, 0, none⟩ (.int .i64 bn) hb (by first | assumption | simp [go_sem, *])
  have s1 := kc ⟨w.heap.size + 1, 1, none⟩ (.int .i64 bd) hb (by first | assumption | simp [go_sem, *])
  have hB := beyond (two w _ _) hb
  clear hb
  go_wp2_with fail
  refine (HR2.out _).mono ?_
  rintro e w2 ⟨rfl, hb⟩
  have hB2 := beyond hB hb
  go_wp2_with fail
  go_ret
  exact ⟨rfl, hB2⟩
def cmpT (an ad bn bd : Int) : Int := if rightR an ad && rightR bn bd then cmpV an ad bn bd else 0
set_option maxHeartbeats 1000000 in
theorem xcmp_any (an ad bn bd : Int) (w : World) (ha : I64 an) (hb : I64 ad) (hc : I64 bn) (hd : I64 bd) :
    Calls Tryz.prog 118 #[rv an ad, rv bn bd] w fun e w' => e = .returned (.int .i64 (cmpT an ad bn bd)) ∧ Below w.heap.size w w' := by
  have ka := askY an ad ha hb
  have kb := askY bn bd hc hd
  cases ra : rightR an ad
  · rw [ra] at ka
    have e : cmpT an ad bn bd = 0 := by simp [cmpT, ra]
    rw [e]
    exact xcmp_not1 an ad bn bd w ka
  · rw [ra] at ka
    cases rb : rightR bn bd
    · rw [rb] at kb
      have e : cmpT an ad bn bd = 0 := by simp [cmpT, rb]
      rw [e]
      exact xcmp_not2 an ad bn bd w ka kb
    · rw [rb] at kb
      have pa := (right_iff.1 ra).1
      have pb := (right_iff.1 rb).1
      have s1 := sz_bd an ha.1 ha.2
      have s2 := sz_bd bn hc.1 hc.2
      have a1 : ad ≤ 9223372036854775808 := by have := hb.2; omega
      have b1 : bd ≤ 9223372036854775808 := by have := hd.2; omega
      have e : cmpT an ad bn bd = cmpV an ad bn bd := by simp [cmpT, ra, rb]
      rw [e]
      refine xcompare_raw an ad bn bd (sz an) (sz bn) _ _ _ _ _ w (sz_pos_eq ad (Int.le_of_lt pa) hb.2) (sz_pos_eq bd (Int.le_of_lt pb) hd.2) ka kb (fun w => xsize_any an w ha.1 ha.2) (fun w => xsize_any bn w hc.1 hc.2) (fun w => xmul_any (sz an) bd w (u64_of s1.1 s1.2) (u64_of (Int.le_of_lt pb) b1)) (fun w => xmul_any (sz bn) ad w (u64_of s2.1 s2.2) (u64_of (Int.le_of_lt pa) a1)) (hideR ?_)
      have gX : an < 0 → an * bd < 0 := fun c => Int.mul_neg_of_neg_of_pos c pb
      have gX' : ¬ an < 0 → 0 ≤ an * bd := fun c => Int.mul_nonneg (by omega) (Int.le_of_lt pb)
      have gY : bn < 0 → bn * ad < 0 := fun c => Int.mul_neg_of_neg_of_pos c pa
      have gY' : ¬ bn < 0 → 0 ≤ bn * ad := fun c => Int.mul_nonneg (by omega) (Int.le_of_lt pa)
      have eX : ¬ an < 0 → sz an * bd = an * bd := fun c => by rw [sz_pos (by omega)]
      have eX' : an < 0 → sz an * bd = -(an * bd) := fun c => by rw [show sz an = -an by simp [sz, c], Int.neg_mul]
      have eY : ¬ bn < 0 → sz bn * ad = bn * ad := fun c => by rw [sz_pos (by omega)]
      have eY' : bn < 0 → sz bn * ad = -(bn * ad) := fun c => by rw [show sz bn = -bn by simp [sz, c], Int.neg_mul]
      unfold cmpV
      generalize sz an * bd = X at *
      generalize sz bn * ad = Y at *
      generalize an * bd = p at *
      generalize bn * ad = q at *
      by_cases c1 : an < 0 <;> by_cases c2 : bn < 0
      · have u := eX' c1
        have v := eY' c2
        by_cases l : Y < X
        · exact Or.inr (Or.inr (Or.inr (Or.inr (Or.inr (Or.inl ⟨(dec_lt_t c1).1, (dec_lt_t c1).2, (dec_lt_t c2).1, (dec_lt_t c2).2, below_case Y X true (by simpa using l), by rw [if_pos (by omega)]⟩)))))
        · by_cases k : X < Y
          · exact Or.inr (Or.inr (Or.inr (Or.inr (Or.inr (Or.inr (Or.inl ⟨(dec_lt_t c1).1, (dec_lt_t c1).2, (dec_lt_t c2).1, (dec_lt_t c2).2, below_case Y X false (by simpa using l), below_case X Y true (by simpa using k), by rw [if_neg (by omega), if_pos (by omega)]⟩))))))
          · exact Or.inr (Or.inr (Or.inr (Or.inr (Or.inr (Or.inr (Or.inr ⟨(dec_lt_t c1).1, (dec_lt_t c1).2, (dec_lt_t c2).1, (dec_lt_t c2).2, below_case Y X false (by simpa using l), below_case X Y false (by simpa using k), by rw [if_neg (by omega), if_neg (by omega)]⟩))))))
      · have u := gX c1
        have v := gY' c2
        exact Or.inl ⟨(dec_lt_t c1).1, (dec_lt_t c1).2, (dec_lt_f c2).1, (dec_lt_f c2).2, by rw [if_pos (by omega)]⟩
      · have u := gX' c1
        have v := gY c2
        exact Or.inr (Or.inl ⟨(dec_lt_f c1).1, (dec_lt_f c1).2, (dec_lt_t c2).1, (dec_lt_t c2).2, by rw [if_neg (by omega), if_pos (by omega)]⟩)
      · have u := eX c1
        have v := eY c2
        by_cases l : X < Y
        · exact Or.inr (Or.inr (Or.inl ⟨(dec_lt_f c1).1, (dec_lt_f c1).2, (dec_lt_f c2).1, (dec_lt_f c2).2, below_case X Y true (by simpa using l), by rw [if_pos (by omega)]⟩))
        · by_cases k : Y < X
          · exact Or.inr (Or.inr (Or.inr (Or.inl ⟨(dec_lt_f c1).1, (dec_lt_f c1).2, (dec_lt_f c2).1, (dec_lt_f c2).2, below_case X Y false (by simpa using l), below_case Y X true (by simpa using k), by rw [if_neg (by omega), if_pos (by omega)]⟩)))
          · exact Or.inr (Or.inr (Or.inr (Or.inr (Or.inl ⟨(dec_lt_f c1).1, (dec_lt_f c1).2, (dec_lt_f c2).1, (dec_lt_f c2).2, below_case X Y false (by simpa using l), below_case Y X false (by simpa using k), by rw [if_neg (by omega), if_neg (by omega)]⟩))))
theorem rcmp_any (an ad bn bd : Int) (w : World) (ha : I64 an) (hb : I64 ad) (hc : I64 bn) (hd : I64 bd) :
    Calls Tryz.prog 158 #[rv an ad, rv bn bd] w fun e w' => e = .returned (.int .i64 (cmpT an ad bn bd)) ∧ Below w.heap.size w w' := by
  cases ra : rightR an ad
  · have e : cmpT an ad bn bd = 0 := by simp [cmpT, ra]
    rw [e]
    exact compare_wrong an ad bn bd w ha hb hc hd (Or.inl ra)
  · cases rb : rightR bn bd
    · have e : cmpT an ad bn bd = 0 := by simp [cmpT, rb]
      rw [e]
      exact compare_wrong an ad bn bd w ha hb hc hd (Or.inr rb)
    · have e : cmpT an ad bn bd = cmpV an ad bn bd := by simp [cmpT, ra, rb]
      rw [e]
      exact compare_right an ad bn bd w ha hb hc hd ra rb
end Go.Proofs.YtondgencdcimjaaGreat
