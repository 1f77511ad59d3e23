/-
  Lists of fractions in memory.
-/
import Derived.Test.YtnfkmpickmonoaaGreatQ42
import Derived.Deep.OwnRows
import Derived.Deep.RegionHeld3
namespace Go.Proofs.YtnfkmpickmonoaaGreat
open Go.RowKit Go.Shelf
set_option linter.unusedVariables false
/-- A list of fractions. -/
structure Rats where
  q : Nat
  n : Nat → Int
  d : Nat → Int
/-- They lie in memory, two cells each, behind a slice's address. -/
def RatV (w : World) (ad : Option Addr) (L : Rats) : Prop := ∀ k, k < L.q → ∃ b off, ad = some ⟨b, off, none⟩ ∧ w.cell? ⟨b, off + k * 2, none⟩ = some (.int .i64 (L.n k)) ∧ w.cell? ⟨b, off + k * 2 + 1, none⟩ = some (.int .i64 (L.d k))
theorem RatV.later {w w' : World} {ad : Option Addr} {L : Rats} (h : RatV w ad L) (hb : Below w.heap.size w w') : RatV w' ad L := fun k hk => by
  obtain ⟨b, off, e, c1, c2⟩ := h k hk
  exact ⟨b, off, e, kc _ _ hb c1, kc _ _ hb c2⟩
/-- Numbers that may be. -/
def RatI (L : Rats) : Prop := ∀ k, k < L.q → I64 (L.n k) ∧ I64 (L.d k)
theorem info_rat : (Tryz.prog.info? 140).map (fun i => (i.zero, i.size, i.bytes)) = some (some (.agg #[.int .i64 0, .int .i64 0]), 2, 16) := by kernel_rfl
end Go.Proofs.YtnfkmpickmonoaaGreat

/-
  point: a difference of two fractions against a number, and against a bound.
-/
namespace Go.Proofs.YtnfkmpickmonoaaGreat
open Go.RowKit Go.Shelf
set_option linter.unusedVariables false
set_option maxRecDepth 100000
theorem nan_any (x : Int) (w : World) : Calls Tryz.prog 141 #[.int .i64 x] w fun e w' => e = .returned (.bool false) ∧ w' = w := by
  go_enter Tryz.func141, Tryz.ntmps141
  go_wp2_with fail
  go_ret
  first | exact ⟨rfl, rfl⟩ | (refine ⟨?_, rfl⟩; simp)
def cmpI (x y : Int) : Int := if x < y then -1 else if y < x then 1 else 0
theorem cmp64_any (x y : Int) (w : World) : Calls Tryz.prog 131 #[.int .i64 x, .int .i64 y] w fun e w' => e = .returned (.int .i64 (cmpI x y)) ∧ w' = w := by
  have N := hideR (fun x w => nan_any x w)
  unfold cmpI
  by_cases c : x < y
  · rw [if_pos c]
    go_enter Tryz.func131, Tryz.ntmps131
    go_wp2_with (go_at_call 141; refine (N.out _ _).mono ?_; rintro e w' ⟨rfl, rfl⟩)
    go_ret
    exact ⟨rfl, rfl⟩
  · rw [if_neg c]
    by_cases d : y < x
    · rw [if_pos d]
      go_enter Tryz.func131, Tryz.ntmps131
      go_wp2_with (go_at_call 141; refine (N.out _ _).mono ?_; rintro e w' ⟨rfl, rfl⟩)
      go_ret
      exact ⟨rfl, rfl⟩
    · rw [if_neg d]
      go_enter Tryz.func131, Tryz.ntmps131
      go_wp2_with (go_at_call 141; refine (N.out _ _).mono ?_; rintro e w' ⟨rfl, rfl⟩)
      go_ret
      exact ⟨rfl, rfl⟩
/-- The rest of a right fraction is right. -/
theorem rest_right {n d : Int} (h : rightR n d = true) (n0 : 0 ≤ n) : rightR (n % d) d = true := by
  obtain ⟨p, c⟩ := right_iff.1 h
  refine right_iff.2 ⟨p, ?_⟩
  have m0 := Int.emod_nonneg n (show d ≠ 0 by omega)
  rw [sz_pos m0]
  rw [sz_pos n0] at c
  have g := gcdI_step n d n0 p
  show gcdI (n % d) d = 1
  have s : gcdI (n % d) d = gcdI d (n % d) := by unfold gcdI; rw [Nat.gcd_comm]
  rw [s, g]
  exact c
theorem w64 {z : Int} (h : I64 z) : wrap64 z = z ∧ IntKind.i64.wrap z = z := by
  have a : wrap64 z = z := by unfold wrap64; obtain ⟨_, _⟩ := h; omega
  exact ⟨a, by rw [IntKind.wrap_i64, ← wrap64]; exact a⟩
abbrev AskF (n d x : Int) : Prop := ∀ w, Calls Tryz.prog 132 #[rv n d] w fun e w' => e = .returned (.int .i64 x) ∧ Below w.heap.size w w'
abbrev AskQ (n d x : Int) : Prop := ∀ w, Calls Tryz.prog 134 #[rv n d] w fun e w' => e = .returned (rv x d) ∧ Below w.heap.size w w'
theorem gap_one (an ad bn bd n x y r : Int) (w : World) (HA : Hid (AskF an ad x)) (HB : Hid (AskF bn bd y)) (HX : I64 (x - y)) (hr : Hid (cmpI (x - y) n = r)) (h0 : (r != 0) = true) :
    Calls Tryz.prog 105 #[rv an ad, rv bn bd, .int .i64 n] w fun e w' => e = .returned (.int .i64 r) ∧ Below w.heap.size w w' := by
  have hx : IntKind.i64.wrap (x - y) = x - y := (w64 HX).2
  have hx' : wrap64 (x - y) = x - y := (w64 HX).1
  have HC := hideR (fun w => cmp64_any (x - y) n w)
  rw [hr.out] at HC
  go_enter Tryz.func105, Tryz.ntmps105
  go_upto_region 1 with (fail)
  have c0 : ((w.alloc (.cells #[.int .i64 an, .int .i64 ad] 140)).alloc (.cells #[.int .i64 bn, .int .i64 bd] 140)).cell? ⟨w.heap.size, 0, none⟩ = some (.int .i64 an) := by simp [go_sem]
  have c1 : ((w.alloc (.cells #[.int .i64 an, .int .i64 ad] 140)).alloc (.cells #[.int .i64 bn, .int .i64 bd] 140)).cell? ⟨w.heap.size, 1, none⟩ = some (.int .i64 ad) := by simp [go_sem]
  have c2 : ((w.alloc (.cells #[.int .i64 an, .int .i64 ad] 140)).alloc (.cells #[.int .i64 bn, .int .i64 bd] 140)).cell? ⟨w.heap.size + 1, 0, none⟩ = some (.int .i64 bn) := by simp [go_sem]
  have c3 : ((w.alloc (.cells #[.int .i64 an, .int .i64 ad] 140)).alloc (.cells #[.int .i64 bn, .int .i64 bd] 140)).cell? ⟨w.heap.size + 1, 1, none⟩ = some (.int .i64 bd) := by simp [go_sem]
  have B0 := hideR (two w (.cells #[.int .i64 an, .int .i64 ad] 140) (.cells #[.int .i64 bn, .int .i64 bd] 140))
  generalize (w.alloc (.cells #[.int .i64 an, .int .i64 ad] 140)).alloc (.cells #[.int .i64 bn, .int .i64 bd] 140) = W at *
  have B1 := Below.refl W.heap.size W
  go_region_held3 (fun w' => Below W.heap.size W w' ∧ w'.cell? ⟨w.heap.size, 0, none⟩ = some (.int .i64 an) ∧ w'.cell? ⟨w.heap.size, 1, none⟩ = some (.int .i64 ad) ∧ w'.cell? ⟨w.heap.size + 1, 0, none⟩ = some (.int .i64 bn) ∧ w'.cell? ⟨w.heap.size + 1, 1, none⟩ = some (.int .i64 bd))
    (first | exact ⟨by first | with_reducible assumption | (apply Below.drew; assumption), by first | with_reducible assumption | assumption, by first | with_reducible assumption | assumption, by first | with_reducible assumption | assumption, by first | with_reducible assumption | assumption⟩ | go_keep)
    (first
      | (go_at_call 132; first | (with_reducible refine (HA.out _).mono ?_; rintro e w' ⟨rfl, hb⟩; have s0 := kc ⟨w.heap.size, 0, none⟩ (.int .i64 an) hb (by first | assumption | simp [go_sem, *]); have s1 := kc ⟨w.heap.size, 1, none⟩ (.int .i64 ad) hb (by first | assumption | simp [go_sem, *]); have s2 := kc ⟨w.heap.size + 1, 0, none⟩ (.int .i64 bn) hb (by first | assumption | simp [go_sem, *]); have s3 := kc ⟨w.heap.size + 1, 1, none⟩ (.int .i64 bd) hb (by first | assumption | simp [go_sem, *]); have s4 := beyond (w := W) (by first | assumption | (apply Below.drew; assumption)) hb) | (with_reducible refine (HB.out _).mono ?_; rintro e w' ⟨rfl, hb⟩; have s0 := kc ⟨w.heap.size, 0, none⟩ (.int .i64 an) hb (by first | assumption | simp [go_sem, *]); have s1 := kc ⟨w.heap.size, 1, none⟩ (.int .i64 ad) hb (by first | assumption | simp [go_sem, *]); have s2 := kc ⟨w.heap.size + 1, 0, none⟩ (.int .i64 bn) hb (by first | assumption | simp [go_sem, *]); have s3 := kc ⟨w.heap.size + 1, 1, none⟩ (.int .i64 bd) hb (by first | assumption | simp [go_sem, *]); have s4 := beyond (w := W) (by first | assumption | (apply Below.drew; assumption)) hb))
      | (go_at_call 131; refine (HC.out _).mono ?_; rintro e w' ⟨rfl, rfl⟩))
  all_goals
    go_wp2_with fail
    go_ret
    exact ⟨rfl, beyond B0.out (by with_reducible assumption)⟩
set_option maxHeartbeats 1000000 in
theorem gap_two (an ad bn bd n x y u v r : Int) (w : World) (HA : Hid (AskF an ad x)) (HB : Hid (AskF bn bd y)) (HX : I64 (x - y)) (hr : Hid (cmpI (x - y) n = 0)) (HU : Hid (AskQ an ad u)) (HV : Hid (AskQ bn bd v)) (HW : Hid (∀ w, Calls Tryz.prog 133 #[rv u ad, rv v bd] w fun e w' => e = .returned (.int .i64 r) ∧ Below w.heap.size w w')) :
    Calls Tryz.prog 105 #[rv an ad, rv bn bd, .int .i64 n] w fun e w' => e = .returned (.int .i64 r) ∧ Below w.heap.size w w' := by
  have hx : IntKind.i64.wrap (x - y) = x - y := (w64 HX).2
  have hx' : wrap64 (x - y) = x - y := (w64 HX).1
  have HC := hideR (fun w => cmp64_any (x - y) n w)
  rw [hr.out] at HC
  go_enter Tryz.func105, Tryz.ntmps105
  go_upto_region 1 with (fail)
  have c0 : ((w.alloc (.cells #[.int .i64 an, .int .i64 ad] 140)).alloc (.cells #[.int .i64 bn, .int .i64 bd] 140)).cell? ⟨w.heap.size, 0, none⟩ = some (.int .i64 an) := by simp [go_sem]
  have c1 : ((w.alloc (.cells #[.int .i64 an, .int .i64 ad] 140)).alloc (.cells #[.int .i64 bn, .int .i64 bd] 140)).cell? ⟨w.heap.size, 1, none⟩ = some (.int .i64 ad) := by simp [go_sem]
  have c2 : ((w.alloc (.cells #[.int .i64 an, .int .i64 ad] 140)).alloc (.cells #[.int .i64 bn, .int .i64 bd] 140)).cell? ⟨w.heap.size + 1, 0, none⟩ = some (.int .i64 bn) := by simp [go_sem]
  have c3 : ((w.alloc (.cells #[.int .i64 an, .int .i64 ad] 140)).alloc (.cells #[.int .i64 bn, .int .i64 bd] 140)).cell? ⟨w.heap.size + 1, 1, none⟩ = some (.int .i64 bd) := by simp [go_sem]
  have B0 := hideR (two w (.cells #[.int .i64 an, .int .i64 ad] 140) (.cells #[.int .i64 bn, .int .i64 bd] 140))
  generalize (w.alloc (.cells #[.int .i64 an, .int .i64 ad] 140)).alloc (.cells #[.int .i64 bn, .int .i64 bd] 140) = W at *
  have B1 := Below.refl W.heap.size W
  go_region_held3 (fun w' => Below W.heap.size W w' ∧ w'.cell? ⟨w.heap.size, 0, none⟩ = some (.int .i64 an) ∧ w'.cell? ⟨w.heap.size, 1, none⟩ = some (.int .i64 ad) ∧ w'.cell? ⟨w.heap.size + 1, 0, none⟩ = some (.int .i64 bn) ∧ w'.cell? ⟨w.heap.size + 1, 1, none⟩ = some (.int .i64 bd))
    (first | exact ⟨by first | with_reducible assumption | (apply Below.drew; assumption), by first | with_reducible assumption | assumption, by first | with_reducible assumption | assumption, by first | with_reducible assumption | assumption, by first | with_reducible assumption | assumption⟩ | go_keep)
    (first
      | (go_at_call 132; first | (with_reducible refine (HA.out _).mono ?_; rintro e w' ⟨rfl, hb⟩; have s0 := kc ⟨w.heap.size, 0, none⟩ (.int .i64 an) hb (by first | assumption | simp [go_sem, *]); have s1 := kc ⟨w.heap.size, 1, none⟩ (.int .i64 ad) hb (by first | assumption | simp [go_sem, *]); have s2 := kc ⟨w.heap.size + 1, 0, none⟩ (.int .i64 bn) hb (by first | assumption | simp [go_sem, *]); have s3 := kc ⟨w.heap.size + 1, 1, none⟩ (.int .i64 bd) hb (by first | assumption | simp [go_sem, *]); have s4 := beyond (w := W) (by first | assumption | (apply Below.drew; assumption)) hb) | (with_reducible refine (HB.out _).mono ?_; rintro e w' ⟨rfl, hb⟩; have s0 := kc ⟨w.heap.size, 0, none⟩ (.int .i64 an) hb (by first | assumption | simp [go_sem, *]); have s1 := kc ⟨w.heap.size, 1, none⟩ (.int .i64 ad) hb (by first | assumption | simp [go_sem, *]); have s2 := kc ⟨w.heap.size + 1, 0, none⟩ (.int .i64 bn) hb (by first | assumption | simp [go_sem, *]); have s3 := kc ⟨w.heap.size + 1, 1, none⟩ (.int .i64 bd) hb (by first | assumption | simp [go_sem, *]); have s4 := beyond (w := W) (by first | assumption | (apply Below.drew; assumption)) hb))
      | (go_at_call 131; refine (HC.out _).mono ?_; rintro e w' ⟨rfl, rfl⟩))
  all_goals
    go_wp2_with fail
    go_region_held3 (fun w' => Below W.heap.size W w' ∧ w'.cell? ⟨w.heap.size, 0, none⟩ = some (.int .i64 an) ∧ w'.cell? ⟨w.heap.size, 1, none⟩ = some (.int .i64 ad) ∧ w'.cell? ⟨w.heap.size + 1, 0, none⟩ = some (.int .i64 bn) ∧ w'.cell? ⟨w.heap.size + 1, 1, none⟩ = some (.int .i64 bd))
      (first | exact ⟨by first | with_reducible assumption | (apply Below.drew; assumption), by first | with_reducible assumption | assumption, by first | with_reducible assumption | assumption, by first | with_reducible assumption | assumption, by first | with_reducible assumption | assumption⟩ | go_keep)
      (first
        | (go_at_call 134; first | (with_reducible refine (HU.out _).mono ?_; rintro e w' ⟨rfl, hb⟩; have s0 := kc ⟨w.heap.size, 0, none⟩ (.int .i64 an) hb (by first | assumption | simp [go_sem, *]); have s1 := kc ⟨w.heap.size, 1, none⟩ (.int .i64 ad) hb (by first | assumption | simp [go_sem, *]); have s2 := kc ⟨w.heap.size + 1, 0, none⟩ (.int .i64 bn) hb (by first | assumption | simp [go_sem, *]); have s3 := kc ⟨w.heap.size + 1, 1, none⟩ (.int .i64 bd) hb (by first | assumption | simp [go_sem, *]); have s4 := beyond (w := W) (by first | assumption | (apply Below.drew; assumption)) hb) | (with_reducible refine (HV.out _).mono ?_; rintro e w' ⟨rfl, hb⟩; have s0 := kc ⟨w.heap.size, 0, none⟩ (.int .i64 an) hb (by first | assumption | simp [go_sem, *]); have s1 := kc ⟨w.heap.size, 1, none⟩ (.int .i64 ad) hb (by first | assumption | simp [go_sem, *]); have s2 := kc ⟨w.heap.size + 1, 0, none⟩ (.int .i64 bn) hb (by first | assumption | simp [go_sem, *]); have s3 := kc ⟨w.heap.size + 1, 1, none⟩ (.int .i64 bd) hb (by first | assumption | simp [go_sem, *]); have s4 := beyond (w := W) (by first | assumption | (apply Below.drew; assumption)) hb))
        | (go_at_call 133; refine (HW.out _).mono ?_; rintro e w' ⟨rfl, hb⟩; have s0 := kc ⟨w.heap.size, 0, none⟩ (.int .i64 an) hb (by first | assumption | simp [go_sem, *]); have s1 := kc ⟨w.heap.size, 1, none⟩ (.int .i64 ad) hb (by first | assumption | simp [go_sem, *]); have s2 := kc ⟨w.heap.size + 1, 0, none⟩ (.int .i64 bn) hb (by first | assumption | simp [go_sem, *]); have s3 := kc ⟨w.heap.size + 1, 1, none⟩ (.int .i64 bd) hb (by first | assumption | simp [go_sem, *]); have s4 := beyond (w := W) (by first | assumption | (apply Below.drew; assumption)) hb))
    all_goals
      go_wp2_with fail
      go_ret
      exact ⟨rfl, beyond B0.out (by with_reducible assumption)⟩
theorem askF {n d : Int} (hn : I64 n) (hd : I64 d) (h : rightR n d = true) : AskF n d (n / d) := fun w => by
  have := floor_any n d w hn hd
  rw [show floorT n d = n / d by simp [floorT, h]] at this
  exact this
theorem askQ {n d : Int} (hn : I64 n) (hd : I64 d) (h : rightR n d = true) : AskQ n d (n % d) := fun w => frac_yes n d _ _ w (by have := askR n d hn hd; rw [h] at this; exact this) (askD n d hn (right_pos h).1 hd.2)
/-- A fraction that a clock may have. -/
def okR (n d : Int) : Bool := rightR n d && decide (0 ≤ n)
theorem okR_iff {n d : Int} : okR n d = true ↔ rightR n d = true ∧ 0 ≤ n := by simp [okR]
theorem gapP_any (an ad bn bd n : Int) (w : World) (ha : I64 an) (hb : I64 ad) (hc : I64 bn) (hd : I64 bd) (oa : okR an ad = true) (ob : okR bn bd = true) :
    Calls Tryz.prog 105 #[rv an ad, rv bn bd, .int .i64 n] w fun e w' => e = .returned (.int .i64 (gapV an ad bn bd n)) ∧ Below w.heap.size w w' := by
  obtain ⟨ra, a0⟩ := okR_iff.1 oa
  obtain ⟨rb, b0⟩ := okR_iff.1 ob
  have pa := (right_pos ra).1
  have pb := (right_pos rb).1
  have x0 := Int.ediv_nonneg a0 (show 0 ≤ ad by omega)
  have y0 := Int.ediv_nonneg b0 (show 0 ≤ bd by omega)
  have x1 := Int.ediv_le_self ad a0
  have y1 := Int.ediv_le_self bd b0
  have HX : I64 (an / ad - bn / bd) := by
    obtain ⟨_, _⟩ := ha
    obtain ⟨_, _⟩ := hc
    exact ⟨by omega, by omega⟩
  unfold gapV
  by_cases c1 : an / ad - bn / bd < n
  · rw [if_pos c1]
    exact gap_one an ad bn bd n _ _ (-1) w (askF ha hb ra) (askF hc hd rb) HX (by show cmpI _ _ = _; unfold cmpI; rw [if_pos c1]) rfl
  · rw [if_neg c1]
    by_cases c2 : n < an / ad - bn / bd
    · rw [if_pos c2]
      exact gap_one an ad bn bd n _ _ 1 w (askF ha hb ra) (askF hc hd rb) HX (by show cmpI _ _ = _; unfold cmpI; rw [if_neg c1, if_pos c2]) rfl
    · rw [if_neg c2]
      have e1 := Int.emod_lt_of_pos an pa
      have e2 := Int.emod_nonneg an (show ad ≠ 0 by omega)
      have e3 := Int.emod_lt_of_pos bn pb
      have e4 := Int.emod_nonneg bn (show bd ≠ 0 by omega)
      obtain ⟨_, _⟩ := hb
      obtain ⟨_, _⟩ := hd
      exact gap_two an ad bn bd n _ _ _ _ _ w (askF ha ⟨by omega, by omega⟩ ra) (askF hc ⟨by omega, by omega⟩ rb) HX (by show cmpI _ _ = _; unfold cmpI; rw [if_neg c1, if_neg c2]) (askQ ha ⟨by omega, by omega⟩ ra) (askQ hc ⟨by omega, by omega⟩ rb)
        (fun w => compare_right _ _ _ _ w ⟨by omega, by omega⟩ ⟨by omega, by omega⟩ ⟨by omega, by omega⟩ ⟨by omega, by omega⟩ (rest_right ra a0) (rest_right rb b0))
end Go.Proofs.YtnfkmpickmonoaaGreat
