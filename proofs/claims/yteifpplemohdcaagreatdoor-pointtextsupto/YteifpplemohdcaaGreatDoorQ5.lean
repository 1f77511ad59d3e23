/-
  The contract of the division of a number of 128 bits by one of 64 (over), and of sign.
-/
import Derived.Test.YteifpplemohdcaaGreatDoorQ2
import Derived.Test.YteifpplemohdcaaGreatDoorQ4
import Derived.Deep.DeepCutAuto
namespace Go.Proofs.YteifpplemohdcaaGreatDoor
open Go.RowKit Go.Shelf
set_option linter.unusedVariables false

set_option maxRecDepth 100000 in
set_option maxHeartbeats 2000000 in
theorem over_raw (hi lo d a b c r : Int) (w : World) (hd : ¬ d = 0) (ea : IntKind.u64.wrap (hi.tdiv d) = a) (er : IntKind.u64.wrap (hi.tmod d) = r) (er2 : hi.tmod d = r)
    (HD : Hid (∀ w, Calls Tryz.prog 155 #[.int .u64 r, .int .u64 lo, .int .u64 d] w fun e w' => e = .returned (.tuple #[.int .u64 b, .int .u64 c]) ∧ Below w.heap.size w w')) :
    Calls Tryz.prog 149 #[.agg #[.int .u64 hi, .int .u64 lo], .int .u64 d] w fun e w' => e = .returned (.tuple #[.agg #[.int .u64 a, .int .u64 b], .int .u64 c]) ∧ Below w.heap.size w w' := by
  go_enter Tryz.func149, Tryz.ntmps149
  go_wp2
  go_quiet (fail)
  go_wp2_with fail
  refine (HD.out _).mono ?_
  rintro e w1 ⟨rfl, hb⟩
  have s0 := kc ⟨w.heap.size + 1, 0, none⟩ (.int .u64 0) hb (by first | assumption | simp [go_sem, *])
  have s1 := kc ⟨w.heap.size + 1, 1, none⟩ (.int .u64 0) hb (by first | assumption | simp [go_sem, *])
  have s2 := kf ⟨w.heap.size + 1, 0, none⟩ (.int .u64 0) hb (by first | assumption | simp [go_sem, *]) (by first | assumption | simp [go_sem, *])
  have s3 := kf ⟨w.heap.size + 1, 1, none⟩ (.int .u64 0) hb (by first | assumption | simp [go_sem, *]) (by first | assumption | simp [go_sem, *])
  have hB := beyond (below_drewN (two w _ _) _) hb
  clear hb
  go_wp2
  refine bodyPost_ret (v := .tuple #[.agg #[.int .u64 a, .int .u64 b], .int .u64 c]) (by simp [results, Tryz.results149, go_sem, *]) rfl ⟨rfl, ?_⟩
  exact set2 hB (Nat.le_succ _) _ _
theorem digit2 (d r l : Int) (r0 : 0 ≤ r) (r1 : r < d) (l0 : 0 ≤ l) (l1 : l ≤ 18446744073709551615) : (r * 18446744073709551616 + l) / d < 18446744073709551616 := by
  rw [Int.ediv_lt_iff_lt_mul (by omega)]
  omega
theorem over_any (N d : Int) (w : World) (hN : U128 N) (d0 : 0 < d) (d1 : d ≤ 18446744073709551615) :
    Calls Tryz.prog 149 #[wv N, .int .u64 d] w fun e w' => e = .returned (.tuple #[wv (N / d), .int .u64 (N % d)]) ∧ Below w.heap.size w w' := by
  obtain ⟨h0, h1⟩ := hi_bd hN
  obtain ⟨l0, l1⟩ := lo_bd N
  have m0 := Int.emod_nonneg (hiW N) (show d ≠ 0 by omega)
  have m1 := Int.emod_lt_of_pos (hiW N) d0
  have q0 := Int.ediv_nonneg h0 (Int.le_of_lt d0)
  have q1 : hiW N / d ≤ hiW N := Int.ediv_le_self d h0
  have e := Int.mul_ediv_add_emod (hiW N) d
  have hl := hilo N
  have f := Int.mul_ediv_add_emod ((hiW N % d) * 18446744073709551616 + loW N) d
  have f0 := Int.emod_nonneg ((hiW N % d) * 18446744073709551616 + loW N) (show d ≠ 0 by omega)
  have f1 := Int.emod_lt_of_pos ((hiW N % d) * 18446744073709551616 + loW N) d0
  have t := digit2 d (hiW N % d) (loW N) m0 m1 l0 l1
  have un := (Int.ediv_emod_unique (a := N) (b := d) (r := ((hiW N % d) * 18446744073709551616 + loW N) % d) (q := hiW N / d * 18446744073709551616 + ((hiW N % d) * 18446744073709551616 + loW N) / d) d0).2 ⟨by
    rw [Int.mul_add, ← Int.mul_assoc]
    generalize d * (hiW N / d) = x at *
    generalize d * (((hiW N % d) * 18446744073709551616 + loW N) / d) = y at *
    omega, f0, f1⟩
  have g0 : 0 ≤ ((hiW N % d) * 18446744073709551616 + loW N) / d := Int.ediv_nonneg (by omega) (by omega)
  have c := over_raw (hiW N) (loW N) d (hiW N / d) (((hiW N % d) * 18446744073709551616 + loW N) / d) (((hiW N % d) * 18446744073709551616 + loW N) % d) (hiW N % d) w (by omega)
    (by rw [Int.tdiv_eq_ediv_of_nonneg h0, IntKind.wrap_u64]; omega) (by rw [Int.tmod_eq_emod_of_nonneg h0, IntKind.wrap_u64]; omega) (Int.tmod_eq_emod_of_nonneg h0) (fun w => div_any _ _ _ w m0 m1 d1 l0 l1)
  have ev : Value.agg #[.int .u64 (hiW N / d), .int .u64 (((hiW N % d) * 18446744073709551616 + loW N) / d)] = wv (N / d) := by
    rw [un.1]
    apply wv_mk
    · unfold hiW; unfold hiW at *; omega
    · unfold loW; unfold hiW loW at *; omega
  rw [ev, ← un.2] at c
  exact c

/-! ### sign -/
theorem sign_zero (a b : Int) (g : Bool) (w : World) (HZ : Hid (∀ w, Calls Tryz.prog 148 #[.agg #[.int .u64 a, .int .u64 b]] w fun e w' => e = .returned (.bool true) ∧ Below w.heap.size w w')) :
    Calls Tryz.prog 129 #[.agg #[.int .u64 a, .int .u64 b, .bool g]] w fun e w' => e = .returned (.int .i64 0) ∧ Below w.heap.size w w' := by
  go_enter Tryz.func129, Tryz.ntmps129
  go_wp2_with fail
  refine (HZ.out _).mono ?_
  rintro e w1 ⟨rfl, hb⟩
  go_wp2
  go_ret
  exact ⟨rfl, beyond (single w _) hb⟩
theorem sign_some (a b : Int) (g : Bool) (w : World) (HZ : Hid (∀ w, Calls Tryz.prog 148 #[.agg #[.int .u64 a, .int .u64 b]] w fun e w' => e = .returned (.bool false) ∧ Below w.heap.size w w')) :
    Calls Tryz.prog 129 #[.agg #[.int .u64 a, .int .u64 b, .bool g]] w fun e w' => e = .returned (.int .i64 (if g then -1 else 1)) ∧ Below w.heap.size w w' := by
  cases g
  all_goals
    go_enter Tryz.func129, Tryz.ntmps129
    go_wp2_with fail
    refine (HZ.out _).mono ?_
    rintro e w1 ⟨rfl, hb⟩
    have s0 := kc ⟨w.heap.size, 2, none⟩ _ hb (by simp [go_sem]; rfl)
    have hB := beyond (single w _) hb
    clear hb
    go_wp2
    go_ret
    exact ⟨rfl, hB⟩
theorem sign_any (N : Int) (g : Bool) (w : World) (hN : U128 N) :
    Calls Tryz.prog 129 #[sv N g] w fun e w' => e = .returned (.int .i64 (if N = 0 then 0 else if g then -1 else 1)) ∧ Below w.heap.size w w' := by
  have Z := fun w => zero_any N w hN
  by_cases h : N = 0
  · rw [decide_eq_true h] at Z
    rw [if_pos h]
    exact sign_zero _ _ g w Z
  · rw [decide_eq_false h] at Z
    rw [if_neg h]
    exact sign_some _ _ g w Z
end Go.Proofs.YteifpplemohdcaaGreatDoor

/-
  The contract of rat.sum: the sum of two fractions by their terms, in lowest terms, or that it cannot be held.
-/
namespace Go.Proofs.YteifpplemohdcaaGreatDoor
open Go.RowKit Go.Shelf
set_option linter.unusedVariables false

theorem beyA {X w1 w2 : World} {o : Obj} (h1 : Below (X.alloc o).heap.size (X.alloc o) w1) (h2 : Below w1.heap.size w1 w2) : Below (X.alloc o).heap.size (X.alloc o) w2 := beyond h1 h2
theorem new_cell (X : World) (cs : Array Value) (T : TypeId) (i : Nat) : (X.alloc (.cells cs T)).cell? ⟨X.heap.size, i, none⟩ = cs[i]? := by simp [go_sem]
theorem new_frozen (X : World) (cs : Array Value) (T : TypeId) (i : Nat) : (X.alloc (.cells cs T)).frozen? ⟨X.heap.size, i, none⟩ = false := by simp [go_sem]
set_option maxRecDepth 100000 in
set_option maxHeartbeats 16000000 in
theorem sum_raw (an ad bn bd g x1 x2 y1 y2 p q o1 o2 rest h l1 l2 jk d1 d2 n d e : Int) (ag bg ng : Bool) (w : World) (g0 : ¬ g = 0) (h0 : ¬ h = 0)
    (qa : IntKind.u64.wrap (ad.tdiv g) = ad / g) (qb : IntKind.u64.wrap (bd.tdiv g) = bd / g) (qh : IntKind.u64.wrap (bd.tdiv h) = bd / h)
    (HG : Hid (∀ w, Calls Tryz.prog 76 #[.int .u64 ad, .int .u64 bd] w fun e w' => e = .returned (.int .u64 g) ∧ ∃ m, w' = w.drewN m))
    (HT1 : Hid (∀ w, Calls Tryz.prog 126 #[tv an ad ag, .int .u64 (bd / g)] w fun e w' => e = .returned (.agg #[.int .u64 x1, .int .u64 x2, .bool ag]) ∧ Below w.heap.size w w'))
    (HT2 : Hid (∀ w, Calls Tryz.prog 126 #[tv bn bd bg, .int .u64 (ad / g)] w fun e w' => e = .returned (.agg #[.int .u64 y1, .int .u64 y2, .bool bg]) ∧ Below w.heap.size w w'))
    (HA : Hid (∀ w, Calls Tryz.prog 127 #[.agg #[.int .u64 x1, .int .u64 x2, .bool ag], .agg #[.int .u64 y1, .int .u64 y2, .bool bg]] w fun e w' => e = .returned (.agg #[.int .u64 p, .int .u64 q, .bool ng]) ∧ Below w.heap.size w w'))
    (HO1 : Hid (∀ w, Calls Tryz.prog 149 #[.agg #[.int .u64 p, .int .u64 q], .int .u64 g] w fun e w' => e = .returned (.tuple #[.agg #[.int .u64 o1, .int .u64 o2], .int .u64 rest]) ∧ Below w.heap.size w w'))
    (HG2 : Hid (∀ w, Calls Tryz.prog 76 #[.int .u64 rest, .int .u64 g] w fun e w' => e = .returned (.int .u64 h) ∧ ∃ m, w' = w.drewN m))
    (HO2 : Hid (∀ w, Calls Tryz.prog 149 #[.agg #[.int .u64 p, .int .u64 q], .int .u64 h] w fun e w' => e = .returned (.tuple #[.agg #[.int .u64 l1, .int .u64 l2], .int .u64 jk]) ∧ Below w.heap.size w w'))
    (HP : Hid (∀ w, Calls Tryz.prog 144 #[.int .u64 (ad / g), .int .u64 (bd / h)] w fun e w' => e = .returned (.agg #[.int .u64 d1, .int .u64 d2]) ∧ Below w.heap.size w w'))
    (HH : Hid (∀ w, Calls Tryz.prog 77 #[.agg #[.int .u64 l1, .int .u64 l2, .bool ng], .agg #[.int .u64 d1, .int .u64 d2]] w fun e' w' => e' = .returned (.tuple #[rv n d, .int .i64 e]) ∧ Below w.heap.size w w')) :
    Calls Tryz.prog 130 #[tv an ad ag, tv bn bd bg] w fun e' w' => e' = .returned (.tuple #[rv n d, .int .i64 e]) ∧ Below w.heap.size w w' := by
  have n1 : ¬ w.heap.size = w.heap.size + 1 + 1 := by omega
  have n2 : ¬ w.heap.size + 1 + 1 = w.heap.size := by omega
  go_enter Tryz.func130, Tryz.ntmps130
  go_wp2_with fail
  refine (HG.out _).mono ?_
  rintro e' w' ⟨rfl, m, rfl⟩
  generalize hW0 : ((w.alloc (.cells #[.int .u64 an, .int .u64 ad, .bool ag] 182)).alloc (.cells #[.int .u64 bn, .int .u64 bd, .bool bg] 182)).alloc (.cells #[.int .i64 0, .int .i64 0] 33) = W0
  have hs0 : W0.heap.size = w.heap.size + 3 := by rw [← hW0]; simp
  have hB0 : Below w.heap.size w W0 := by rw [← hW0]; exact three w _ _ _
  have a0 : W0.cell? ⟨w.heap.size, 0, none⟩ = some (.int .u64 an) := by rw [← hW0]; simp [go_sem]
  have a1 : W0.cell? ⟨w.heap.size, 1, none⟩ = some (.int .u64 ad) := by rw [← hW0]; simp [go_sem]
  have a2 : W0.cell? ⟨w.heap.size, 2, none⟩ = some (.bool ag) := by rw [← hW0]; simp [go_sem]
  have a3 : W0.cell? ⟨w.heap.size + 1, 0, none⟩ = some (.int .u64 bn) := by rw [← hW0]; simp [go_sem]
  have a4 : W0.cell? ⟨w.heap.size + 1, 1, none⟩ = some (.int .u64 bd) := by rw [← hW0]; simp [go_sem]
  have a5 : W0.cell? ⟨w.heap.size + 1, 2, none⟩ = some (.bool bg) := by rw [← hW0]; simp [go_sem]
  have a6 : W0.cell? ⟨w.heap.size + 1 + 1, 0, none⟩ = some (.int .i64 0) := by rw [← hW0]; simp [go_sem]
  have a7 : W0.cell? ⟨w.heap.size + 1 + 1, 1, none⟩ = some (.int .i64 0) := by rw [← hW0]; simp [go_sem]
  have f0 : W0.frozen? ⟨w.heap.size + 1 + 1, 0, none⟩ = false := by rw [← hW0]; simp [go_sem]
  have f1 : W0.frozen? ⟨w.heap.size + 1 + 1, 1, none⟩ = false := by rw [← hW0]; simp [go_sem]
  clear hW0
  have HS0 := hideR hs0
  clear hs0
  have rc : ∀ (w' : World), Below W0.heap.size W0 w' → ∀ b o, b < W0.heap.size → w'.cell? ⟨b, o, none⟩ = W0.cell? ⟨b, o, none⟩ := fun w' h => (bcell h).1
  have rf : ∀ (w' : World), Below W0.heap.size W0 w' → ∀ b o, b < W0.heap.size → w'.frozen? ⟨b, o, none⟩ = W0.frozen? ⟨b, o, none⟩ := fun w' h => (bcell h).2
  have k0 : w.heap.size < W0.heap.size := by have := HS0.out; omega
  have k1 : w.heap.size + 1 < W0.heap.size := by have := HS0.out; omega
  have k2 : w.heap.size + 1 + 1 < W0.heap.size := by have := HS0.out; omega
  have nc0 : ∀ k, ((W0.drewN k).alloc (.cells #[.int .u64 0, .int .u64 0, .bool false] 136)).cell? ⟨W0.heap.size, 0, none⟩ = some (.int .u64 0) := fun k => new_cell (W0.drewN k) #[.int .u64 0, .int .u64 0, .bool false] _ 0
  have nf0 : ∀ k, ((W0.drewN k).alloc (.cells #[.int .u64 0, .int .u64 0, .bool false] 136)).frozen? ⟨W0.heap.size, 0, none⟩ = false := fun k => new_frozen (W0.drewN k) #[.int .u64 0, .int .u64 0, .bool false] _ 0
  have nc1 : ∀ k, ((W0.drewN k).alloc (.cells #[.int .u64 0, .int .u64 0, .bool false] 136)).cell? ⟨W0.heap.size, 1, none⟩ = some (.int .u64 0) := fun k => new_cell (W0.drewN k) #[.int .u64 0, .int .u64 0, .bool false] _ 1
  have nf1 : ∀ k, ((W0.drewN k).alloc (.cells #[.int .u64 0, .int .u64 0, .bool false] 136)).frozen? ⟨W0.heap.size, 1, none⟩ = false := fun k => new_frozen (W0.drewN k) #[.int .u64 0, .int .u64 0, .bool false] _ 1
  have nc2 : ∀ k, ((W0.drewN k).alloc (.cells #[.int .u64 0, .int .u64 0, .bool false] 136)).cell? ⟨W0.heap.size, 2, none⟩ = some (.bool false) := fun k => new_cell (W0.drewN k) #[.int .u64 0, .int .u64 0, .bool false] _ 2
  have nf2 : ∀ k, ((W0.drewN k).alloc (.cells #[.int .u64 0, .int .u64 0, .bool false] 136)).frozen? ⟨W0.heap.size, 2, none⟩ = false := fun k => new_frozen (W0.drewN k) #[.int .u64 0, .int .u64 0, .bool false] _ 2
  go_upto_region 2 with (fail)
  go_cut [7] (fun t w' => ∃ bk : Nat, t = .pointer (some ⟨bk, 0, none⟩) ∧ W0.heap.size ≤ bk ∧ w'.cell? ⟨bk, 0, none⟩ = some (.int .u64 p) ∧ w'.cell? ⟨bk, 1, none⟩ = some (.int .u64 q) ∧ w'.cell? ⟨bk, 2, none⟩ = some (.bool ng) ∧ Below W0.heap.size W0 w')
  case first =>
    go_region_held3 (fun w' => Below W0.heap.size W0 w')
      (first | assumption | exact set3 (by assumption) (Nat.le_refl _) _ _ _ | exact below_drewN (Below.refl _ _) _ | exact below_drewN (Below.alloc (Below.refl _ _) (Nat.le_refl _) _) _ | exact Below.drew (below_drewN (Below.refl _ _) _) | exact Below.alloc (by assumption) (Below.size (by assumption)) _ | exact Below.alloc (below_drewN (Below.refl _ _) _) (Nat.le_refl _) _ | exact ((Below.setCell (by assumption) (Below.size (by assumption)) _).setCell (Below.size (by assumption)) _).setCell (Below.size (by assumption)) _ | exact (((Below.alloc (by assumption) (Below.size (by assumption)) _).setCell (Below.size (by assumption)) _).setCell (Below.size (by assumption)) _).setCell (Below.size (by assumption)) _)
      (first
        | (go_at_call_of 126 (bd / g); refine (HT1.out _).mono ?_; rintro e w' ⟨rfl, hb⟩; have hW : Below W0.heap.size W0 w' := beyond (w := W0) (by first | assumption | exact Below.alloc (by assumption) (Below.size (by assumption)) _ | exact below_drewN (Below.refl _ _) _ | exact below_drewN (Below.alloc (Below.refl _ _) (Nat.le_refl _) _) _ | exact Below.alloc (below_drewN (Below.refl _ _) _) (Nat.le_refl _) _) hb; first | (have hA := beyR (by assumption) hb; have hc := (bcell hA).1; have hf := (bcell hA).2) | (have hA := beyD (by assumption) hb; have hc := (bcell hA).1; have hf := (bcell hA).2) | (have hA := beyA (by assumption) hb; have hc := (bcell hA).1; have hf := (bcell hA).2) | (have hc := (bcell hb).1; have hf := (bcell hb).2))
        | (go_at_call 126; refine (HT2.out _).mono ?_; rintro e w' ⟨rfl, hb⟩; have hW : Below W0.heap.size W0 w' := beyond (w := W0) (by first | assumption | exact Below.alloc (by assumption) (Below.size (by assumption)) _ | exact below_drewN (Below.refl _ _) _ | exact below_drewN (Below.alloc (Below.refl _ _) (Nat.le_refl _) _) _ | exact Below.alloc (below_drewN (Below.refl _ _) _) (Nat.le_refl _) _) hb; first | (have hA := beyR (by assumption) hb; have hc := (bcell hA).1; have hf := (bcell hA).2) | (have hA := beyD (by assumption) hb; have hc := (bcell hA).1; have hf := (bcell hA).2) | (have hA := beyA (by assumption) hb; have hc := (bcell hA).1; have hf := (bcell hA).2) | (have hc := (bcell hb).1; have hf := (bcell hb).2))
        | (go_at_call 127; refine (HA.out _).mono ?_; rintro e w' ⟨rfl, hb⟩; have hW : Below W0.heap.size W0 w' := beyond (w := W0) (by first | assumption | exact Below.alloc (by assumption) (Below.size (by assumption)) _ | exact below_drewN (Below.refl _ _) _ | exact below_drewN (Below.alloc (Below.refl _ _) (Nat.le_refl _) _) _ | exact Below.alloc (below_drewN (Below.refl _ _) _) (Nat.le_refl _) _) hb; first | (have hA := beyR (by assumption) hb; have hc := (bcell hA).1; have hf := (bcell hA).2) | (have hA := beyD (by assumption) hb; have hc := (bcell hA).1; have hf := (bcell hA).2) | (have hA := beyA (by assumption) hb; have hc := (bcell hA).1; have hf := (bcell hA).2) | (have hc := (bcell hb).1; have hf := (bcell hb).2)))
    all_goals go_wp2_with fail
    all_goals go_meet
    all_goals refine ⟨_, rfl, ?_, ?_, ?_, ?_, ?_⟩
    all_goals first | assumption | (apply Below.size; assumption) | exact Nat.le_refl _ | (simp [go_sem]; done) | (go_simp; done) | (simp [go_sem, *]; done) | skip
  case rest =>
    obtain ⟨bk, rfl, hbk, p0, p1, p2, hW⟩ := hcut
    go_wp2_with fail
    refine (HO1.out _).mono ?_
    rintro e' w1 ⟨rfl, hb⟩
    have q0 := kc ⟨bk, 0, none⟩ _ hb p0
    have q1 := kc ⟨bk, 1, none⟩ _ hb p1
    have q2 := kc ⟨bk, 2, none⟩ _ hb p2
    have hW1 := beyond hW hb
    clear p0 p1 p2 hW hb
    have r0 : ∀ O, (w1.alloc O).cell? ⟨bk, 0, none⟩ = some (.int .u64 p) := fun O => kc _ _ (single _ _) q0
    have r1 : ∀ O, (w1.alloc O).cell? ⟨bk, 1, none⟩ = some (.int .u64 q) := fun O => kc _ _ (single _ _) q1
    have r2 : ∀ O, (w1.alloc O).cell? ⟨bk, 2, none⟩ = some (.bool ng) := fun O => kc _ _ (single _ _) q2
    go_wp2_with fail
    refine (HG2.out _).mono ?_
    rintro e' w' ⟨rfl, m2, rfl⟩
    go_wp2_with fail
    refine (HO2.out _).mono ?_
    rintro e' w2 ⟨rfl, hb⟩
    have hW2 := beyond (below_drewN (beyond hW1 (single _ _)) _) hb
    have u0 := kc ⟨bk, 2, none⟩ (.bool ng) hb (by simp [go_sem, *])
    clear q0 q1 q2 r0 r1 r2 hW1 hb
    have u1 : ∀ O, (w2.alloc O).cell? ⟨bk, 2, none⟩ = some (.bool ng) := fun O => kc _ _ (single _ _) u0
    have v1 := kc ⟨w.heap.size, 1, none⟩ _ hW2 a1
    have v2 := kc ⟨w.heap.size + 1, 1, none⟩ _ hW2 a4
    have v3 : ∀ O, (w2.alloc O).cell? ⟨w.heap.size, 1, none⟩ = some (.int .u64 ad) := fun O => kc _ _ (single _ _) v1
    have v4 : ∀ O, (w2.alloc O).cell? ⟨w.heap.size + 1, 1, none⟩ = some (.int .u64 bd) := fun O => kc _ _ (single _ _) v2
    have w3 : ∀ O, (w2.alloc O).cell? ⟨w.heap.size + 1 + 1, 0, none⟩ = some (.int .i64 0) := fun O => kc _ _ (beyond hW2 (single _ _)) a6
    have w4 : ∀ O, (w2.alloc O).cell? ⟨w.heap.size + 1 + 1, 1, none⟩ = some (.int .i64 0) := fun O => kc _ _ (beyond hW2 (single _ _)) a7
    have w5 : ∀ O, (w2.alloc O).frozen? ⟨w.heap.size + 1 + 1, 0, none⟩ = false := fun O => kf _ _ (beyond hW2 (single _ _)) a6 f0
    have w6 : ∀ O, (w2.alloc O).frozen? ⟨w.heap.size + 1 + 1, 1, none⟩ = false := fun O => kf _ _ (beyond hW2 (single _ _)) a7 f1
    have sz2 := hW2.size
    have b1 : ¬ bk = w.heap.size + 1 + 1 := by have := HS0.out; omega
    have b2 : ¬ w.heap.size + 1 + 1 = bk := by omega
    have b3 : ¬ w2.heap.size = w.heap.size + 1 + 1 := by omega
    have b4 : ¬ w.heap.size + 1 + 1 = w2.heap.size := by omega
    clear a0 a1 a2 a3 a4 a5 a6 a7 f0 f1 rc rf nc0 nc1 nc2 nf0 nf1 nf2 v1 v2 u0
    go_upto_region 6 with (fail)
    go_region_held3 (fun w' => w'.cell? ⟨bk, 2, none⟩ = some (.bool ng) ∧ w'.cell? ⟨w.heap.size, 1, none⟩ = some (.int .u64 ad) ∧ w'.cell? ⟨w.heap.size + 1, 1, none⟩ = some (.int .u64 bd) ∧ w'.cell? ⟨w2.heap.size, 0, none⟩ = some (.int .u64 l1) ∧ w'.cell? ⟨w2.heap.size, 1, none⟩ = some (.int .u64 l2))
      (first | exact ⟨by assumption, by assumption, by assumption, by assumption, by assumption⟩ | go_keep)
      (first
        | (go_at_call 144; refine (HP.out _).mono ?_; rintro e' w' ⟨rfl, hb⟩; have s0 := kc ⟨bk, 2, none⟩ (.bool ng) hb (by first | assumption | simp [go_sem, *]); have s1 := kc ⟨w.heap.size, 1, none⟩ (.int .u64 ad) hb (by first | assumption | simp [go_sem, *]); have s2 := kc ⟨w.heap.size + 1, 1, none⟩ (.int .u64 bd) hb (by first | assumption | simp [go_sem, *]); have s3 := kc ⟨w2.heap.size, 0, none⟩ (.int .u64 l1) hb (by first | assumption | simp [go_sem, *]); have s4 := kc ⟨w2.heap.size, 1, none⟩ (.int .u64 l2) hb (by first | assumption | simp [go_sem, *]); have s5 := kc ⟨w.heap.size + 1 + 1, 0, none⟩ (.int .i64 0) hb (by first | assumption | simp [go_sem, *]); have s6 := kc ⟨w.heap.size + 1 + 1, 1, none⟩ (.int .i64 0) hb (by first | assumption | simp [go_sem, *]); have t0 := kf ⟨w.heap.size + 1 + 1, 0, none⟩ (.int .i64 0) hb (by first | assumption | simp [go_sem, *]) (by first | assumption | simp [go_sem, *]); have t1 := kf ⟨w.heap.size + 1 + 1, 1, none⟩ (.int .i64 0) hb (by first | assumption | simp [go_sem, *]) (by first | assumption | simp [go_sem, *]); have hX := beyond (by first | assumption | exact Below.drew (beyond hW2 (single _ _)) | exact beyond hW2 (single _ _)) hb)
        | (go_at_call 77; refine (HH.out _).mono ?_; rintro e' w' ⟨rfl, hb⟩; have s0 := kc ⟨bk, 2, none⟩ (.bool ng) hb (by first | assumption | simp [go_sem, *]); have s1 := kc ⟨w.heap.size, 1, none⟩ (.int .u64 ad) hb (by first | assumption | simp [go_sem, *]); have s2 := kc ⟨w.heap.size + 1, 1, none⟩ (.int .u64 bd) hb (by first | assumption | simp [go_sem, *]); have s3 := kc ⟨w2.heap.size, 0, none⟩ (.int .u64 l1) hb (by first | assumption | simp [go_sem, *]); have s4 := kc ⟨w2.heap.size, 1, none⟩ (.int .u64 l2) hb (by first | assumption | simp [go_sem, *]); have s5 := kc ⟨w.heap.size + 1 + 1, 0, none⟩ (.int .i64 0) hb (by first | assumption | simp [go_sem, *]); have s6 := kc ⟨w.heap.size + 1 + 1, 1, none⟩ (.int .i64 0) hb (by first | assumption | simp [go_sem, *]); have t0 := kf ⟨w.heap.size + 1 + 1, 0, none⟩ (.int .i64 0) hb (by first | assumption | simp [go_sem, *]) (by first | assumption | simp [go_sem, *]); have t1 := kf ⟨w.heap.size + 1 + 1, 1, none⟩ (.int .i64 0) hb (by first | assumption | simp [go_sem, *]) (by first | assumption | simp [go_sem, *]); have hX := beyond (by first | assumption | exact Below.drew (beyond hW2 (single _ _)) | exact beyond hW2 (single _ _)) hb))
    all_goals
      go_wp2
      refine bodyPost_ret (v := .tuple #[rv n d, .int .i64 e]) (by simp [results, Tryz.results130, go_sem, *]) rfl ⟨rfl, ?_⟩
      exact set2 (beyond hB0 (by assumption)) (by omega) _ _
end Go.Proofs.YteifpplemohdcaaGreatDoor

/-
  The contracts of the signed sum of two numbers of 128 bits, of rat.sum for right fractions, and the plain laws of what they tell.
-/
namespace Go.Proofs.YteifpplemohdcaaGreatDoor
open Go.RowKit Go.Shelf
set_option linter.unusedVariables false

def sgn (N : Int) (g : Bool) : Int := if g then -N else N
def addM (M N : Int) (g h : Bool) : Int := if g = h then M + N else if M < N then N - M else M - N
def addG (M N : Int) (g h : Bool) : Bool := if g = h then g else if M < N then h else g
theorem add_sgn (M N : Int) (g h : Bool) : sgn (addM M N g h) (addG M N g h) = sgn M g + sgn N h := by
  unfold sgn addM addG
  cases g <;> cases h <;> simp <;> (try split) <;> (try simp) <;> omega
theorem addM_bd (M N : Int) (g h : Bool) (m0 : 0 ≤ M) (n0 : 0 ≤ N) : 0 ≤ addM M N g h ∧ addM M N g h ≤ M + N := by
  unfold addM
  split
  · omega
  · split <;> omega
theorem addS_any (M N : Int) (g h : Bool) (w : World) (hM : U128 M) (hN : U128 N) (hs : U128 (M + N)) :
    Calls Tryz.prog 127 #[sv M g, sv N h] w fun e w' => e = .returned (sv (addM M N g h) (addG M N g h)) ∧ Below w.heap.size w w' := by
  by_cases e : g = h
  · have e1 : addM M N g h = M + N := by simp [addM, e]
    have e2 : addG M N g h = g := by simp [addG, e]
    rw [e1, e2]
    exact add_same _ _ _ _ _ _ g h w (by simp [e]) (fun w => plus_any M N w hM hN hs)
  · have en : (g == h) = false := by simpa using e
    by_cases c : M < N
    · have e1 : addM M N g h = N - M := by simp [addM, e, c]
      have e2 : addG M N g h = h := by simp [addG, e, c]
      rw [e1, e2]
      refine add_less _ _ _ _ _ _ g h w en (fun w => ?_) (fun w => minus_any N M w hN hM (by omega))
      have := below_any M N w
      rw [decide_eq_true c] at this
      exact this
    · have e1 : addM M N g h = M - N := by simp [addM, e, c]
      have e2 : addG M N g h = g := by simp [addG, e, c]
      rw [e1, e2]
      refine add_more _ _ _ _ _ _ g h w en (fun w => ?_) (fun w => minus_any M N w hM hN (by omega))
      have := below_any M N w
      rw [decide_eq_false c] at this
      exact this

/-! ### sum -/
def sG (ad bd : Int) : Int := gcdI ad bd
def sM (an ad : Int) (ag : Bool) (bn bd : Int) (bg : Bool) : Int := addM (an * (bd / sG ad bd)) (bn * (ad / sG ad bd)) ag bg
def sS (an ad : Int) (ag : Bool) (bn bd : Int) (bg : Bool) : Bool := addG (an * (bd / sG ad bd)) (bn * (ad / sG ad bd)) ag bg
def sH (an ad : Int) (ag : Bool) (bn bd : Int) (bg : Bool) : Int := gcdI (sM an ad ag bn bd bg % sG ad bd) (sG ad bd)
def sNum (an ad : Int) (ag : Bool) (bn bd : Int) (bg : Bool) : Int := sM an ad ag bn bd bg / sH an ad ag bn bd bg
def sDen (an ad : Int) (ag : Bool) (bn bd : Int) (bg : Bool) : Int := ad / sG ad bd * (bd / sH an ad ag bn bd bg)
theorem gcdI_dvd (a b : Int) (a0 : 0 ≤ a) (b0 : 0 ≤ b) : gcdI a b ∣ a ∧ gcdI a b ∣ b := by
  unfold gcdI
  obtain ⟨x, rfl⟩ := Int.eq_ofNat_of_zero_le a0
  obtain ⟨y, rfl⟩ := Int.eq_ofNat_of_zero_le b0
  exact ⟨Int.natCast_dvd_natCast.2 (by simpa using Nat.gcd_dvd_left x y), Int.natCast_dvd_natCast.2 (by simpa using Nat.gcd_dvd_right x y)⟩
theorem gcdI_pos (a b : Int) (a0 : 0 ≤ a) (b0 : 0 < b) : 0 < gcdI a b := by
  unfold gcdI
  have := Nat.gcd_pos_of_pos_right a.toNat (show 0 < b.toNat by omega)
  omega
theorem gcdI_le_right (a b : Int) (b0 : 0 < b) : gcdI a b ≤ b := by
  unfold gcdI
  have := Nat.gcd_le_right a.toNat (show 0 < b.toNat by omega)
  omega
theorem quo_bd (a g : Int) (a0 : 0 ≤ a) (hg : 0 < g) : 0 ≤ a / g ∧ a / g ≤ a := ⟨Int.ediv_nonneg a0 (by omega), Int.ediv_le_self g a0⟩
theorem prod_bd (a b A B : Int) (a0 : 0 ≤ a) (b0 : 0 ≤ b) (hA : a ≤ A) (hB : b ≤ B) : 0 ≤ a * b ∧ a * b ≤ A * B :=
  ⟨Int.mul_nonneg a0 b0, Int.mul_le_mul hA hB b0 (by omega)⟩
abbrev H63 (x : Int) : Prop := 0 ≤ x ∧ x ≤ 9223372036854775808
abbrev D63 (x : Int) : Prop := 0 < x ∧ x ≤ 9223372036854775808
theorem rsum_any (an ad bn bd : Int) (ag bg : Bool) (w : World) (hn : H63 an) (hd : D63 ad) (kn : H63 bn) (kd : D63 bd) :
    Calls Tryz.prog 130 #[tv an ad ag, tv bn bd bg] w fun e w' => e = .returned (.tuple #[rv (heldN (sNum an ad ag bn bd bg) (sDen an ad ag bn bd bg) (sS an ad ag bn bd bg)) (heldD (sNum an ad ag bn bd bg) (sDen an ad ag bn bd bg) (sS an ad ag bn bd bg)), .int .i64 (heldE (sNum an ad ag bn bd bg) (sDen an ad ag bn bd bg) (sS an ad ag bn bd bg))]) ∧ Below w.heap.size w w' := by
  obtain ⟨n0, n1⟩ := hn
  obtain ⟨d0, d1⟩ := hd
  obtain ⟨m0, m1⟩ := kn
  obtain ⟨e0, e1⟩ := kd
  have G0 : 0 < sG ad bd := gcdI_pos _ _ (by omega) e0
  have G1 : sG ad bd ≤ bd := gcdI_le_right _ _ e0
  obtain ⟨p0, p1⟩ := quo_bd ad (sG ad bd) (by omega) G0
  obtain ⟨q0, q1⟩ := quo_bd bd (sG ad bd) (by omega) G0
  obtain ⟨x0, x1⟩ := prod_bd an (bd / sG ad bd) 9223372036854775808 9223372036854775808 n0 q0 n1 (by omega)
  obtain ⟨y0, y1⟩ := prod_bd bn (ad / sG ad bd) 9223372036854775808 9223372036854775808 m0 p0 m1 (by omega)
  obtain ⟨M0, M1⟩ := addM_bd (an * (bd / sG ad bd)) (bn * (ad / sG ad bd)) ag bg x0 y0
  have M0 : 0 ≤ sM an ad ag bn bd bg := M0
  have M1 : sM an ad ag bn bd bg ≤ an * (bd / sG ad bd) + bn * (ad / sG ad bd) := M1
  have r0 := Int.emod_nonneg (sM an ad ag bn bd bg) (show sG ad bd ≠ 0 by omega)
  have r1 := Int.emod_lt_of_pos (sM an ad ag bn bd bg) G0
  have H0 : 0 < sH an ad ag bn bd bg := gcdI_pos _ _ r0 G0
  have H1 : sH an ad ag bn bd bg ≤ sG ad bd := gcdI_le_right _ _ G0
  obtain ⟨N0, N1⟩ := quo_bd (sM an ad ag bn bd bg) (sH an ad ag bn bd bg) M0 H0
  obtain ⟨k0, k1⟩ := quo_bd bd (sH an ad ag bn bd bg) (by omega) H0
  obtain ⟨D0, D1⟩ := prod_bd (ad / sG ad bd) (bd / sH an ad ag bn bd bg) 9223372036854775808 9223372036854775808 p0 k0 (by omega) (by omega)
  have uM : U128 (sM an ad ag bn bd bg) := ⟨M0, by omega⟩
  refine sum_raw an ad bn bd (sG ad bd) _ _ _ _ _ _ _ _ _ (sH an ad ag bn bd bg) _ _ _ _ _ _ _ _ ag bg (sS an ad ag bn bd bg) w (by omega) (by omega)
    (quo_eq ad _ (by omega) (by omega) G0) (quo_eq bd _ (by omega) (by omega) G0) (quo_eq bd _ (by omega) (by omega) H0)
    (fun w => gcd_draws ad bd w ⟨by omega, by omega⟩ ⟨by omega, by omega⟩)
    (fun w => times_any an ad (bd / sG ad bd) ag w ⟨by omega, by omega⟩ ⟨by omega, by omega⟩)
    (fun w => times_any bn bd (ad / sG ad bd) bg w ⟨by omega, by omega⟩ ⟨by omega, by omega⟩)
    (fun w => addS_any _ _ ag bg w ⟨by omega, by omega⟩ ⟨by omega, by omega⟩ ⟨by omega, by omega⟩)
    (fun w => over_any (sM an ad ag bn bd bg) (sG ad bd) w uM G0 (by omega))
    (fun w => gcd_draws _ _ w ⟨r0, by omega⟩ ⟨by omega, by omega⟩)
    (fun w => over_any (sM an ad ag bn bd bg) (sH an ad ag bn bd bg) w uM H0 (by omega))
    (fun w => product_any _ _ w ⟨by omega, by omega⟩ ⟨by omega, by omega⟩)
    (fun w => hold_any (sNum an ad ag bn bd bg) (sDen an ad ag bn bd bg) (sS an ad ag bn bd bg) w ⟨N0, ?_⟩ ⟨D0, ?_⟩)
  · have : sNum an ad ag bn bd bg ≤ sM an ad ag bn bd bg := N1
    omega
  · have : sDen an ad ag bn bd bg ≤ 9223372036854775808 * 9223372036854775808 := D1
    omega

/-! ### What the sum tells -/
theorem sgn_mul (a b : Int) (g : Bool) : sgn (a * b) g = sgn a g * b := by
  unfold sgn
  split
  · rw [Int.neg_mul]
  · rfl
end Go.Proofs.YteifpplemohdcaaGreatDoor

/-
  The contracts of rat.Add, Compare, Of.
-/
namespace Go.Proofs.YteifpplemohdcaaGreatDoor
open Go.RowKit Go.Shelf
set_option linter.unusedVariables false
abbrev I64 (x : Int) : Prop := -9223372036854775808 ≤ x ∧ x ≤ 9223372036854775807
theorem whole_any (n : Int) (w : World) : Calls Tryz.prog 79 #[.int .i64 n] w fun e w' => e = .returned (rv n 1) ∧ Below w.heap.size w w' := by
  go_enter Tryz.func79, Tryz.ntmps79
  go_wp2
  refine bodyPost_ret (v := rv n 1) (by simp [results, Tryz.results79, go_sem]) rfl ⟨rfl, ?_⟩
  first | exact single _ _ | exact set2 (single _ _) (Nat.le_refl _) _ _
theorem ratOf_raw (n : Int) (w : World) (H : Hid (∀ w, Calls Tryz.prog 79 #[.int .i64 n] w fun e w' => e = .returned (rv n 1) ∧ Below w.heap.size w w')) : Calls Tryz.prog 46 #[.int .i64 n] w fun e w' => e = .returned (rv n 1) ∧ Below w.heap.size w w' := by
  go_enter Tryz.func46, Tryz.ntmps46
  go_wp2_with fail
  refine (H.out _).mono ?_
  rintro e w1 ⟨rfl, hb⟩
  have s0 := kc ⟨w.heap.size, 0, none⟩ (.int .i64 0) hb (by simp [go_sem])
  have s1 := kc ⟨w.heap.size, 1, none⟩ (.int .i64 0) hb (by simp [go_sem])
  have s2 := kf ⟨w.heap.size, 0, none⟩ (.int .i64 0) hb (by simp [go_sem]) (by simp [go_sem])
  have s3 := kf ⟨w.heap.size, 1, none⟩ (.int .i64 0) hb (by simp [go_sem]) (by simp [go_sem])
  have hB := beyond (single w _) hb
  clear hb
  go_wp2_with fail
  refine bodyPost_ret (v := rv n 1) (by simp [results, Tryz.results46, go_sem, *]) rfl ⟨rfl, ?_⟩
  exact set2 hB (Nat.le_refl _) _ _
theorem ratOf_any (n : Int) (w : World) : Calls Tryz.prog 46 #[.int .i64 n] w fun e w' => e = .returned (rv n 1) ∧ Below w.heap.size w w' := ratOf_raw n w (fun w => whole_any n w)
abbrev AskR (n d : Int) (r : Bool) : Prop := ∀ w, Calls Tryz.prog 55 #[rv n d] w fun e w' => e = .returned (.bool r) ∧ Below w.heap.size w w'
end Go.Proofs.YteifpplemohdcaaGreatDoor
