/-
  The contract of rat.Between where no whole number lies between.
-/
import Derived.Test.YtmpdicjjaoeblaaDoorVg
namespace Go.Proofs.YtmpdicjjaoeblaaDoor
open Go.RowKit Go.Shelf
set_option linter.unusedVariables false
set_option maxRecDepth 100000 in
set_option maxHeartbeats 32000000 in
theorem between_raw (an ad bn bd c1 f f1 c2 p1 q1 p2 q2 x y n d : Int) (g1 g2 : Bool) (w : World) (hc1 : ¬ 0 ≤ c1) (hf1 : IntKind.i64.wrap (f + 1) = f1) (hc2 : ¬ c2 < 0) (hn : ¬ an < 0) (HR : Hid (AskR an ad true)) (HR2 : Hid (AskR bn bd true))
    (HC1 : Hid (∀ w, Calls Tryd.prog 28 #[rv an ad, rv bn bd] w fun e w' => e = .returned (.int .i64 c1) ∧ Below w.heap.size w w'))
    (HF : Hid (∀ w, Calls Tryd.prog 30 #[rv an ad] w fun e w' => e = .returned (.int .i64 f) ∧ Below w.heap.size w w'))
    (HW : Hid (∀ w, Calls Tryd.prog 29 #[.int .i64 f1] w fun e w' => e = .returned (rv f1 1) ∧ Below w.heap.size w w'))
    (HC2 : Hid (∀ w, Calls Tryd.prog 28 #[rv f1 1, rv bn bd] w fun e w' => e = .returned (.int .i64 c2) ∧ Below w.heap.size w w'))
    (HTa : Hid (∀ w, Calls Tryd.prog 27 #[rv an ad] w fun e w' => e = .returned (tv p1 q1 g1) ∧ Below w.heap.size w w'))
    (HTb : Hid (∀ w, Calls Tryd.prog 27 #[rv bn bd] w fun e w' => e = .returned (tv p2 q2 g2) ∧ Below w.heap.size w w'))
    (HS : Hid (∀ w, Calls Tryd.prog 31 #[tv p1 q1 g1, tv p2 q2 g2] w fun e w' => e = .returned (.tuple #[.int .u64 x, .int .u64 y]) ∧ Below w.heap.size w w'))
    (HNx : Hid (∀ w, Calls Tryd.prog 25 #[.int .u64 x] w fun e w' => e = .returned (.agg #[.int .u64 0, .int .u64 x]) ∧ Below w.heap.size w w'))
    (HNy : Hid (∀ w, Calls Tryd.prog 25 #[.int .u64 y] w fun e w' => e = .returned (.agg #[.int .u64 0, .int .u64 y]) ∧ Below w.heap.size w w'))
    (HH : Hid (∀ w, Calls Tryd.prog 24 #[.agg #[.int .u64 0, .int .u64 x, .bool false], .agg #[.int .u64 0, .int .u64 y]] w fun e w' => e = .returned (.tuple #[rv n d, .int .i64 0]) ∧ Below w.heap.size w w')) :
    Calls Tryd.prog 18 #[rv an ad, rv bn bd] w fun e w' => e = .returned (.tuple #[rv n d, .int .i64 0]) ∧ Below w.heap.size w w' := by
  have n1 : ¬ w.heap.size = w.heap.size + 1 + 1 := by omega
  have n2 : ¬ w.heap.size + 1 + 1 = w.heap.size := by omega
  go_enter Tryd.func18, Tryd.ntmps18
  go_wp2_with fail
  refine (HR.out _).mono ?_
  rintro e w1 ⟨rfl, hb⟩
  have s0 := kc ⟨w.heap.size, 0, none⟩ (.int .i64 an) hb (by first | assumption | simp [go_sem, *])
  have s1 := kc ⟨w.heap.size, 1, none⟩ (.int .i64 ad) hb (by first | assumption | simp [go_sem, *])
  have s2 := kc ⟨w.heap.size + 1, 0, none⟩ (.int .i64 bn) hb (by first | assumption | simp [go_sem, *])
  have s3 := kc ⟨w.heap.size + 1, 1, none⟩ (.int .i64 bd) hb (by first | assumption | simp [go_sem, *])
  have s4 := kc ⟨w.heap.size + 1 + 1, 0, none⟩ (.int .i64 0) hb (by first | assumption | simp [go_sem, *])
  have s5 := kc ⟨w.heap.size + 1 + 1, 1, none⟩ (.int .i64 0) hb (by first | assumption | simp [go_sem, *])
  have sf0 := kf ⟨w.heap.size + 1 + 1, 0, none⟩ (.int .i64 0) hb (by first | assumption | simp [go_sem, *]) (by first | assumption | simp [go_sem, *])
  have sf1 := kf ⟨w.heap.size + 1 + 1, 1, none⟩ (.int .i64 0) hb (by first | assumption | simp [go_sem, *]) (by first | assumption | simp [go_sem, *])
  have hB := beyond (three w _ _ _) hb
  clear hb
  go_wp2_with fail
  refine (HR2.out _).mono ?_
  rintro e w2 ⟨rfl, hb⟩
  have u0 := kc ⟨w.heap.size, 0, none⟩ (.int .i64 an) hb (by first | assumption | simp [go_sem, *])
  have u1 := kc ⟨w.heap.size, 1, none⟩ (.int .i64 ad) hb (by first | assumption | simp [go_sem, *])
  have u2 := kc ⟨w.heap.size + 1, 0, none⟩ (.int .i64 bn) hb (by first | assumption | simp [go_sem, *])
  have u3 := kc ⟨w.heap.size + 1, 1, none⟩ (.int .i64 bd) hb (by first | assumption | simp [go_sem, *])
  have u4 := kc ⟨w.heap.size + 1 + 1, 0, none⟩ (.int .i64 0) hb (by first | assumption | simp [go_sem, *])
  have u5 := kc ⟨w.heap.size + 1 + 1, 1, none⟩ (.int .i64 0) hb (by first | assumption | simp [go_sem, *])
  have uf0 := kf ⟨w.heap.size + 1 + 1, 0, none⟩ (.int .i64 0) hb (by first | assumption | simp [go_sem, *]) (by first | assumption | simp [go_sem, *])
  have uf1 := kf ⟨w.heap.size + 1 + 1, 1, none⟩ (.int .i64 0) hb (by first | assumption | simp [go_sem, *]) (by first | assumption | simp [go_sem, *])
  have hB2 := beyond hB hb
  clear hb hB s0 s1 s2 s3 s4 s5 sf0 sf1
  go_wp2_with fail
  refine (HC1.out _).mono ?_
  rintro e w3 ⟨rfl, hb⟩
  have x0 := kc ⟨w.heap.size, 0, none⟩ (.int .i64 an) hb (by first | assumption | simp [go_sem, *])
  have x1 := kc ⟨w.heap.size, 1, none⟩ (.int .i64 ad) hb (by first | assumption | simp [go_sem, *])
  have x2 := kc ⟨w.heap.size + 1, 0, none⟩ (.int .i64 bn) hb (by first | assumption | simp [go_sem, *])
  have x3 := kc ⟨w.heap.size + 1, 1, none⟩ (.int .i64 bd) hb (by first | assumption | simp [go_sem, *])
  have x4 := kc ⟨w.heap.size + 1 + 1, 0, none⟩ (.int .i64 0) hb (by first | assumption | simp [go_sem, *])
  have x5 := kc ⟨w.heap.size + 1 + 1, 1, none⟩ (.int .i64 0) hb (by first | assumption | simp [go_sem, *])
  have xf0 := kf ⟨w.heap.size + 1 + 1, 0, none⟩ (.int .i64 0) hb (by first | assumption | simp [go_sem, *]) (by first | assumption | simp [go_sem, *])
  have xf1 := kf ⟨w.heap.size + 1 + 1, 1, none⟩ (.int .i64 0) hb (by first | assumption | simp [go_sem, *]) (by first | assumption | simp [go_sem, *])
  have hB3 := beyond hB2 hb
  clear hb hB2 u0 u1 u2 u3 u4 u5 uf0 uf1
  go_wp2_with fail
  refine (HF.out _).mono ?_
  rintro e w4 ⟨rfl, hb⟩
  have y0 := kc ⟨w.heap.size, 0, none⟩ (.int .i64 an) hb (by first | assumption | simp [go_sem, *])
  have y1 := kc ⟨w.heap.size, 1, none⟩ (.int .i64 ad) hb (by first | assumption | simp [go_sem, *])
  have y2 := kc ⟨w.heap.size + 1, 0, none⟩ (.int .i64 bn) hb (by first | assumption | simp [go_sem, *])
  have y3 := kc ⟨w.heap.size + 1, 1, none⟩ (.int .i64 bd) hb (by first | assumption | simp [go_sem, *])
  have y4 := kc ⟨w.heap.size + 1 + 1, 0, none⟩ (.int .i64 0) hb (by first | assumption | simp [go_sem, *])
  have y5 := kc ⟨w.heap.size + 1 + 1, 1, none⟩ (.int .i64 0) hb (by first | assumption | simp [go_sem, *])
  have yf0 := kf ⟨w.heap.size + 1 + 1, 0, none⟩ (.int .i64 0) hb (by first | assumption | simp [go_sem, *]) (by first | assumption | simp [go_sem, *])
  have yf1 := kf ⟨w.heap.size + 1 + 1, 1, none⟩ (.int .i64 0) hb (by first | assumption | simp [go_sem, *]) (by first | assumption | simp [go_sem, *])
  have hB4 := beyond hB3 hb
  clear hb hB3 x0 x1 x2 x3 x4 x5 xf0 xf1
  go_wp2_with fail
  refine (HW.out _).mono ?_
  rintro e w5 ⟨rfl, hb⟩
  have z0 := kc ⟨w.heap.size, 0, none⟩ (.int .i64 an) hb (by first | assumption | simp [go_sem, *])
  have z1 := kc ⟨w.heap.size, 1, none⟩ (.int .i64 ad) hb (by first | assumption | simp [go_sem, *])
  have z2 := kc ⟨w.heap.size + 1, 0, none⟩ (.int .i64 bn) hb (by first | assumption | simp [go_sem, *])
  have z3 := kc ⟨w.heap.size + 1, 1, none⟩ (.int .i64 bd) hb (by first | assumption | simp [go_sem, *])
  have z4 := kc ⟨w.heap.size + 1 + 1, 0, none⟩ (.int .i64 0) hb (by first | assumption | simp [go_sem, *])
  have z5 := kc ⟨w.heap.size + 1 + 1, 1, none⟩ (.int .i64 0) hb (by first | assumption | simp [go_sem, *])
  have zf0 := kf ⟨w.heap.size + 1 + 1, 0, none⟩ (.int .i64 0) hb (by first | assumption | simp [go_sem, *]) (by first | assumption | simp [go_sem, *])
  have zf1 := kf ⟨w.heap.size + 1 + 1, 1, none⟩ (.int .i64 0) hb (by first | assumption | simp [go_sem, *]) (by first | assumption | simp [go_sem, *])
  have hB5 := beyond hB4 hb
  clear hb hB4 y0 y1 y2 y3 y4 y5 yf0 yf1
  have r0 : ∀ O, (w5.alloc O).cell? ⟨w.heap.size, 0, none⟩ = some (.int .i64 an) := fun O => kc _ _ (single _ _) z0
  have r1 : ∀ O, (w5.alloc O).cell? ⟨w.heap.size, 1, none⟩ = some (.int .i64 ad) := fun O => kc _ _ (single _ _) z1
  have r2 : ∀ O, (w5.alloc O).cell? ⟨w.heap.size + 1, 0, none⟩ = some (.int .i64 bn) := fun O => kc _ _ (single _ _) z2
  have r3 : ∀ O, (w5.alloc O).cell? ⟨w.heap.size + 1, 1, none⟩ = some (.int .i64 bd) := fun O => kc _ _ (single _ _) z3
  have r4 : ∀ O, (w5.alloc O).cell? ⟨w.heap.size + 1 + 1, 0, none⟩ = some (.int .i64 0) := fun O => kc _ _ (single _ _) z4
  have r5 : ∀ O, (w5.alloc O).cell? ⟨w.heap.size + 1 + 1, 1, none⟩ = some (.int .i64 0) := fun O => kc _ _ (single _ _) z5
  have rf0 : ∀ O, (w5.alloc O).frozen? ⟨w.heap.size + 1 + 1, 0, none⟩ = false := fun O => kf _ _ (single _ _) z4 zf0
  have rf1 : ∀ O, (w5.alloc O).frozen? ⟨w.heap.size + 1 + 1, 1, none⟩ = false := fun O => kf _ _ (single _ _) z5 zf1
  have l5 : w.heap.size + 1 + 1 < w5.heap.size := World.block_lt_of_cell? _ _ z4
  have rB : ∀ O, Below w.heap.size w (w5.alloc O) := fun O => beyond hB5 (single _ _)
  go_wp2_with fail
  refine (HC2.out _).mono ?_
  rintro e w6 ⟨rfl, hb⟩
  have Q0 := kc ⟨w.heap.size, 0, none⟩ (.int .i64 an) hb (r0 _)
  have Q1 := kc ⟨w.heap.size, 1, none⟩ (.int .i64 ad) hb (r1 _)
  have Q2 := kc ⟨w.heap.size + 1, 0, none⟩ (.int .i64 bn) hb (r2 _)
  have Q3 := kc ⟨w.heap.size + 1, 1, none⟩ (.int .i64 bd) hb (r3 _)
  have Q4 := kc ⟨w.heap.size + 1 + 1, 0, none⟩ (.int .i64 0) hb (r4 _)
  have Q5 := kc ⟨w.heap.size + 1 + 1, 1, none⟩ (.int .i64 0) hb (r5 _)
  have Qf0 := kf ⟨w.heap.size + 1 + 1, 0, none⟩ (.int .i64 0) hb (r4 _) (rf0 _)
  have Qf1 := kf ⟨w.heap.size + 1 + 1, 1, none⟩ (.int .i64 0) hb (r5 _) (rf1 _)
  have hB6 := beyond (rB _) hb
  clear hb hB5 rB z0 z1 z2 z3 z4 z5 zf0 zf1 r0 r1 r2 r3 r4 r5 rf0 rf1
  go_wp2_with fail
  have k0 : w.heap.size < w6.heap.size := World.block_lt_of_cell? _ _ Q0
  have k1 : w.heap.size + 1 < w6.heap.size := World.block_lt_of_cell? _ _ Q2
  have k2 : w.heap.size + 1 + 1 < w6.heap.size := World.block_lt_of_cell? _ _ Q4
  have rc : ∀ (w' : World), Below w6.heap.size w6 w' → ∀ b o, b < w6.heap.size → w'.cell? ⟨b, o, none⟩ = w6.cell? ⟨b, o, none⟩ := fun w' h => (bcell h).1
  have HB6 := hideR hB6
  have HQ := hideR (And.intro (And.intro Q4 Q5) (And.intro Qf0 Qf1))
  have HK2 := hideR k2
  clear hB6 Q4 Q5 Qf0 Qf1 k2 n1 n2 hc1 hf1 hc2 HC1 HF HW HC2 HR HR2 l5
  have nc0 : ∀ k, ((w6.drewN k).alloc (.cells #[.int .u64 0, .int .u64 0, .bool false] 53)).cell? ⟨w6.heap.size, 0, none⟩ = some (.int .u64 0) := fun k => new_cell (w6.drewN k) #[.int .u64 0, .int .u64 0, .bool false] _ 0
  have nf0 : ∀ k, ((w6.drewN k).alloc (.cells #[.int .u64 0, .int .u64 0, .bool false] 53)).frozen? ⟨w6.heap.size, 0, none⟩ = false := fun k => new_frozen (w6.drewN k) #[.int .u64 0, .int .u64 0, .bool false] _ 0
  have nc1 : ∀ k, ((w6.drewN k).alloc (.cells #[.int .u64 0, .int .u64 0, .bool false] 53)).cell? ⟨w6.heap.size, 1, none⟩ = some (.int .u64 0) := fun k => new_cell (w6.drewN k) #[.int .u64 0, .int .u64 0, .bool false] _ 1
  have nf1 : ∀ k, ((w6.drewN k).alloc (.cells #[.int .u64 0, .int .u64 0, .bool false] 53)).frozen? ⟨w6.heap.size, 1, none⟩ = false := fun k => new_frozen (w6.drewN k) #[.int .u64 0, .int .u64 0, .bool false] _ 1
  have nc2 : ∀ k, ((w6.drewN k).alloc (.cells #[.int .u64 0, .int .u64 0, .bool false] 53)).cell? ⟨w6.heap.size, 2, none⟩ = some (.bool false) := fun k => new_cell (w6.drewN k) #[.int .u64 0, .int .u64 0, .bool false] _ 2
  have nf2 : ∀ k, ((w6.drewN k).alloc (.cells #[.int .u64 0, .int .u64 0, .bool false] 53)).frozen? ⟨w6.heap.size, 2, none⟩ = false := fun k => new_frozen (w6.drewN k) #[.int .u64 0, .int .u64 0, .bool false] _ 2
  go_cut [7, 8, 9] (fun s t u w' => ∃ bx bz : Nat, s = .pointer (some ⟨bx, 0, none⟩) ∧ t = .pointer (some ⟨bz, 0, none⟩) ∧ u = .bool false ∧ w'.cell? ⟨bx, 0, none⟩ = some (.int .u64 p1) ∧ w'.cell? ⟨bx, 1, none⟩ = some (.int .u64 q1) ∧ w'.cell? ⟨bx, 2, none⟩ = some (.bool g1) ∧ w'.cell? ⟨bz, 0, none⟩ = some (.int .u64 p2) ∧ w'.cell? ⟨bz, 1, none⟩ = some (.int .u64 q2) ∧ w'.cell? ⟨bz, 2, none⟩ = some (.bool g2) ∧ Below w6.heap.size w6 w')
  case first =>
    go_region_held3 (fun w' => Below w6.heap.size w6 w')
      (first | with_reducible assumption | with_reducible exact set3 (by assumption) (Nat.le_refl _) _ _ _ | with_reducible exact set3 (by assumption) (Nat.le_succ _) _ _ _ | with_reducible exact set3 (by assumption) (Below.size (by assumption)) _ _ _ | with_reducible exact set3 (by assumption) (Nat.le_succ_of_le (Below.size (by assumption))) _ _ _ | with_reducible exact set3 (Below.alloc (by assumption) (Below.size (by assumption)) _) (Nat.le_refl _) _ _ _ | with_reducible exact set3 (Below.alloc (by assumption) (Below.size (by assumption)) _) (Nat.le_succ _) _ _ _ | with_reducible exact set3 (Below.alloc (by assumption) (Below.size (by assumption)) _) (Below.size (by assumption)) _ _ _ | with_reducible exact set3 (Below.alloc (by assumption) (Below.size (by assumption)) _) (Nat.le_succ_of_le (Below.size (by assumption))) _ _ _ | with_reducible exact Below.drew (Below.refl _ _) | with_reducible exact below_drewN (Below.refl _ _) _ | with_reducible exact Below.alloc (by assumption) (Below.size (by assumption)) _ | with_reducible exact Below.alloc (Below.alloc (by assumption) (Below.size (by assumption)) _) (le2 (by assumption)) _ | with_reducible exact Below.alloc (Below.drew (Below.refl _ _)) (Nat.le_refl _) _ | with_reducible exact Below.drew (Below.alloc (Below.refl _ _) (Nat.le_refl _) _) | with_reducible exact Below.drew (Below.alloc (Below.alloc (Below.refl _ _) (Nat.le_refl _) _) (le2 (Below.refl _ _)) _) | with_reducible exact Below.alloc (Below.alloc (Below.drew (Below.refl _ _)) (Nat.le_refl _) _) (le2 (Below.drew (Below.refl _ _))) _ | with_reducible exact al3 (by assumption) (Nat.le_refl _) _ _ _ _ | with_reducible exact al3 (by assumption) (Nat.le_succ _) _ _ _ _ | with_reducible exact al3 (by assumption) (Below.size (by assumption)) _ _ _ _ | with_reducible exact al3 (by assumption) (Nat.le_succ_of_le (Below.size (by assumption))) _ _ _ _)
      (first
        | (go_at_call_of 27 an; refine (HTa.out _).mono ?_; rintro e' w' ⟨rfl, hb⟩; have hW : Below w6.heap.size w6 w' := beyond (w := w6) (by (first | with_reducible assumption | with_reducible exact Below.drew (Below.refl _ _) | with_reducible exact below_drewN (Below.refl _ _) _ | with_reducible exact Below.alloc (by assumption) (Below.size (by assumption)) _ | with_reducible exact Below.alloc (Below.alloc (by assumption) (Below.size (by assumption)) _) (le2 (by assumption)) _ | with_reducible exact Below.alloc (Below.drew (Below.refl _ _)) (Nat.le_refl _) _ | with_reducible exact Below.drew (Below.alloc (Below.refl _ _) (Nat.le_refl _) _) | with_reducible exact Below.drew (Below.alloc (Below.alloc (Below.refl _ _) (Nat.le_refl _) _) (le2 (Below.refl _ _)) _) | with_reducible exact Below.alloc (Below.alloc (Below.drew (Below.refl _ _)) (Nat.le_refl _) _) (le2 (Below.drew (Below.refl _ _))) _)) hb; have zz := hW.size; (first | (with_reducible (have pp := newTwoI hb); obtain ⟨p0, p1, p2, p3, p4, p5, p6, p7, p8, p9, p10, p11, p12, p13, p14⟩ := pp; with_reducible (have qq := newTwo2I hb); obtain ⟨q0, q1, q2, q3, q4, q5, q6, q7, q8, q9, q10, q11, q12, q13, q14⟩ := qq) | (with_reducible (have pp := newOneI hb); obtain ⟨p0, p1, p2, p3, p4, p5, p6, p7, p8, p9, p10, p11, p12, p13, p14⟩ := pp) | (with_reducible (have pp := newTwo hb); obtain ⟨p0, p1, p2, p3, p4, p5, p6, p7, p8, p9, p10, p11, p12, p13, p14⟩ := pp; with_reducible (have qq := newTwo2 hb); obtain ⟨q0, q1, q2, q3, q4, q5, q6, q7, q8, q9, q10, q11, q12, q13, q14⟩ := qq) | (with_reducible (have pp := newTwoD hb); obtain ⟨p0, p1, p2, p3, p4, p5, p6, p7, p8, p9, p10, p11, p12, p13, p14⟩ := pp; with_reducible (have qq := newTwo2D hb); obtain ⟨q0, q1, q2, q3, q4, q5, q6, q7, q8, q9, q10, q11, q12, q13, q14⟩ := qq) | (with_reducible (have pp := newOne hb); obtain ⟨p0, p1, p2, p3, p4, p5, p6, p7, p8, p9, p10, p11, p12, p13, p14⟩ := pp) | (with_reducible (have pp := newOneD hb); obtain ⟨p0, p1, p2, p3, p4, p5, p6, p7, p8, p9, p10, p11, p12, p13, p14⟩ := pp) | skip))
        | (go_at_call 27; refine (HTb.out _).mono ?_; rintro e' w' ⟨rfl, hb⟩; have hW : Below w6.heap.size w6 w' := beyond (w := w6) (by (first | with_reducible assumption | with_reducible exact Below.drew (Below.refl _ _) | with_reducible exact below_drewN (Below.refl _ _) _ | with_reducible exact Below.alloc (by assumption) (Below.size (by assumption)) _ | with_reducible exact Below.alloc (Below.alloc (by assumption) (Below.size (by assumption)) _) (le2 (by assumption)) _ | with_reducible exact Below.alloc (Below.drew (Below.refl _ _)) (Nat.le_refl _) _ | with_reducible exact Below.drew (Below.alloc (Below.refl _ _) (Nat.le_refl _) _) | with_reducible exact Below.drew (Below.alloc (Below.alloc (Below.refl _ _) (Nat.le_refl _) _) (le2 (Below.refl _ _)) _) | with_reducible exact Below.alloc (Below.alloc (Below.drew (Below.refl _ _)) (Nat.le_refl _) _) (le2 (Below.drew (Below.refl _ _))) _)) hb; have zz := hW.size; (first | (with_reducible (have PP := carry hb p0 p1 p2 p3 p4 p5); obtain ⟨P0, P1, P2, P3, P4, P5, P6, P7, P8, P9, P10, P11, P12, P13, P14⟩ := PP) | (with_reducible (have PP := carry hb (p6 _) (p7 _) (p8 _) (p9 _) (p10 _) (p11 _)); obtain ⟨P0, P1, P2, P3, P4, P5, P6, P7, P8, P9, P10, P11, P12, P13, P14⟩ := PP) | skip); (first | (with_reducible (have QQ := carry hb q0 q1 q2 q3 q4 q5); obtain ⟨Q0, Q1, Q2, Q3, Q4, Q5, Q6, Q7, Q8, Q9, Q10, Q11, Q12, Q13, Q14⟩ := QQ) | (with_reducible (have QQ := carry hb (q6 _) (q7 _) (q8 _) (q9 _) (q10 _) (q11 _)); obtain ⟨Q0, Q1, Q2, Q3, Q4, Q5, Q6, Q7, Q8, Q9, Q10, Q11, Q12, Q13, Q14⟩ := QQ) | skip); (first | (with_reducible (have rr := newTwoI hb); obtain ⟨r0, r1, r2, r3, r4, r5, r6, r7, r8, r9, r10, r11, r12, r13, r14⟩ := rr; with_reducible (have ss := newTwo2I hb); obtain ⟨s0, s1, s2, s3, s4, s5, s6, s7, s8, s9, s10, s11, s12, s13, s14⟩ := ss) | (with_reducible (have rr := newOneI hb); obtain ⟨r0, r1, r2, r3, r4, r5, r6, r7, r8, r9, r10, r11, r12, r13, r14⟩ := rr) | (with_reducible (have rr := newTwo hb); obtain ⟨r0, r1, r2, r3, r4, r5, r6, r7, r8, r9, r10, r11, r12, r13, r14⟩ := rr; with_reducible (have ss := newTwo2 hb); obtain ⟨s0, s1, s2, s3, s4, s5, s6, s7, s8, s9, s10, s11, s12, s13, s14⟩ := ss) | (with_reducible (have rr := newTwoD hb); obtain ⟨r0, r1, r2, r3, r4, r5, r6, r7, r8, r9, r10, r11, r12, r13, r14⟩ := rr; with_reducible (have ss := newTwo2D hb); obtain ⟨s0, s1, s2, s3, s4, s5, s6, s7, s8, s9, s10, s11, s12, s13, s14⟩ := ss) | (with_reducible (have rr := newOne hb); obtain ⟨r0, r1, r2, r3, r4, r5, r6, r7, r8, r9, r10, r11, r12, r13, r14⟩ := rr) | (with_reducible (have rr := newOneD hb); obtain ⟨r0, r1, r2, r3, r4, r5, r6, r7, r8, r9, r10, r11, r12, r13, r14⟩ := rr) | skip)))
    all_goals go_wp2_with fail
    all_goals go_meet
    all_goals refine ⟨_, _, rfl, rfl, by first | rfl | simp [hn], ?_, ?_, ?_, ?_, ?_, ?_, ?_⟩
    all_goals first | with_reducible assumption | (simp [go_sem]; done) | (go_simp; done) | (simp [go_sem, *]; done) | skip
  case rest =>
    obtain ⟨bx, bz, rfl, rfl, rfl, c0, c1, c2, c3, c4, c5, hW⟩ := hcut
    clear nc0 nc1 nc2 nf0 nf1 nf2 rc HTa HTb
    obtain ⟨⟨Q4, Q5⟩, Qf0, Qf1⟩ := HQ.out
    go_wp2_with fail
    refine (HS.out _).mono ?_
    rintro e v1 ⟨rfl, hb⟩
    have hV1 := beyond hW hb
    clear hb hW c0 c1 c2 c3 c4 c5
    go_wp2_with fail
    refine (HNx.out _).mono ?_
    rintro e v2 ⟨rfl, hb⟩
    have hV2 := beyond hV1 hb
    clear hb hV1
    go_wp2_with fail
    refine (HNy.out _).mono ?_
    rintro e v3 ⟨rfl, hb⟩
    have hV3 := beyond hV2 hb
    clear hb hV2
    go_wp2_with fail
    refine (HH.out _).mono ?_
    rintro e v4 ⟨rfl, hb⟩
    have hV4 := beyond hV3 hb
    clear hb hV3
    have t4 : v4.cell? ⟨w.heap.size + 1 + 1, 0, none⟩ = some (.int .i64 0) := kc _ _ hV4 Q4
    have t5 : v4.cell? ⟨w.heap.size + 1 + 1, 1, none⟩ = some (.int .i64 0) := kc _ _ hV4 Q5
    have tf4 : v4.frozen? ⟨w.heap.size + 1 + 1, 0, none⟩ = false := kf _ _ hV4 Q4 Qf0
    have tf5 : v4.frozen? ⟨w.heap.size + 1 + 1, 1, none⟩ = false := kf _ _ hV4 Q5 Qf1
    have z4 : ∀ O, (v4.alloc O).cell? ⟨w.heap.size + 1 + 1, 0, none⟩ = some (.int .i64 0) := fun O => kc _ _ (single _ _) t4
    have z5 : ∀ O, (v4.alloc O).cell? ⟨w.heap.size + 1 + 1, 1, none⟩ = some (.int .i64 0) := fun O => kc _ _ (single _ _) t5
    have zf4 : ∀ O, (v4.alloc O).frozen? ⟨w.heap.size + 1 + 1, 0, none⟩ = false := fun O => kf _ _ (single _ _) t4 tf4
    have zf5 : ∀ O, (v4.alloc O).frozen? ⟨w.heap.size + 1 + 1, 1, none⟩ = false := fun O => kf _ _ (single _ _) t5 tf5
    have l4 : w.heap.size + 1 + 1 < v4.heap.size := World.block_lt_of_cell? _ _ t4
    have m1 : ¬ v4.heap.size = w.heap.size + 1 + 1 := by omega
    have m2 : ¬ w.heap.size + 1 + 1 = v4.heap.size := by omega
    have HV := hideR (show ∀ O, Below w.heap.size w (v4.alloc O) from fun O => beyond HB6.out (beyond hV4 (single _ _)))
    clear hV4 Q0 Q1 Q2 Q3 Q4 Q5 Qf0 Qf1 k0 k1 t4 t5 tf4 tf5 HH HNx HNy HS HQ HK2
    have HL := hideR l4
    clear l4
    go_wp2_with fail
    refine bodyPost_ret (v := .tuple #[rv n d, .int .i64 0]) (by simp [results, Tryd.results18, go_sem, *]) rfl ⟨rfl, ?_⟩
    first | exact set2 (HV.out _) (by omega) _ _ | exact HV.out _
end Go.Proofs.YtmpdicjjaoeblaaDoor
