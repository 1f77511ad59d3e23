/-
  The contracts of rat.hold, termsOf, opposite, times, add, sign and Right: signed numbers of 128 bits, terms of fractions, and whether a fraction is in lowest terms.
-/
import Derived.Test.YteifpplemohdcaaGreatDoorQ1
import Derived.Deep.RegionHeld3
namespace Go.Proofs.YteifpplemohdcaaGreatDoor
open Go.RowKit Go.Shelf
set_option linter.unusedVariables false

abbrev sv (N : Int) (g : Bool) : Value := .agg #[.int .u64 (hiW N), .int .u64 (loW N), .bool g]
abbrev tv (n d : Int) (g : Bool) : Value := .agg #[.int .u64 n, .int .u64 d, .bool g]
abbrev rv (n d : Int) : Value := .agg #[.int .i64 n, .int .i64 d]
theorem bcell {W w1 : World} (hb : Below W.heap.size W w1) : (∀ b o, b < W.heap.size → w1.cell? ⟨b, o, none⟩ = W.cell? ⟨b, o, none⟩) ∧ (∀ b o, b < W.heap.size → w1.frozen? ⟨b, o, none⟩ = W.frozen? ⟨b, o, none⟩) :=
  ⟨fun b o h => hb.cell (p := ⟨b, o, none⟩) h, fun b o h => hb.frozen (p := ⟨b, o, none⟩) h⟩

theorem set2 {w w1 : World} (hb : Below w.heap.size w w1) {b o1 o2 : Nat} (h : w.heap.size ≤ b) (u1 u2 : Value) : Below w.heap.size w ((w1.setCell ⟨b, o1, none⟩ u1).setCell ⟨b, o2, none⟩ u2) :=
  (hb.setCell h _).setCell h _
theorem set3 {w w1 : World} (hb : Below w.heap.size w w1) {b o1 o2 o3 : Nat} (h : w.heap.size ≤ b) (u1 u2 u3 : Value) : Below w.heap.size w (((w1.setCell ⟨b, o1, none⟩ u1).setCell ⟨b, o2, none⟩ u2).setCell ⟨b, o3, none⟩ u3) :=
  ((hb.setCell h _).setCell h _).setCell h _

def mostOf (g : Bool) : Int := if g then 9223372036854775808 else 9223372036854775807
/-- What atMost tells of a pair of words. -/
abbrev Asks (hi lo n : Int) (r : Bool) : Prop := ∀ w, Calls Tryz.prog 98 #[.agg #[.int .u64 hi, .int .u64 lo], .int .u64 n] w fun e w' => e = .returned (.bool r) ∧ Below w.heap.size w w'
set_option maxHeartbeats 1000000 in
theorem hold_over1 (hi lo dh dl : Int) (g : Bool) (w : World) (HA : Hid (Asks hi lo (mostOf g) false)) :
    Calls Tryz.prog 77 #[.agg #[.int .u64 hi, .int .u64 lo, .bool g], .agg #[.int .u64 dh, .int .u64 dl]] w fun e w' => e = .returned (.tuple #[rv 0 0, .int .i64 20]) ∧ Below w.heap.size w w' := by
  cases g
  all_goals
    go_enter Tryz.func77, Tryz.ntmps77
    go_wp2_with fail
    refine (HA.out _).mono ?_
    rintro e w1 ⟨rfl, h1⟩
    obtain ⟨hc, hf⟩ := bcell h1
    have hs := h1.size
    simp at hs
    go_wp2
    refine bodyPost_ret (v := .tuple #[rv 0 0, .int .i64 20]) (by simp [results, Tryz.results77, go_sem, hc]) rfl ⟨rfl, ?_⟩
    exact set2 (beyond (three w _ _ _) h1) (by omega) _ _
set_option maxHeartbeats 1000000 in
theorem hold_over2 (hi lo dh dl : Int) (g : Bool) (w : World) (HA : Hid (Asks hi lo (mostOf g) true)) (HB : Hid (Asks dh dl 9223372036854775807 false)) :
    Calls Tryz.prog 77 #[.agg #[.int .u64 hi, .int .u64 lo, .bool g], .agg #[.int .u64 dh, .int .u64 dl]] w fun e w' => e = .returned (.tuple #[rv 0 0, .int .i64 20]) ∧ Below w.heap.size w w' := by
  cases g
  all_goals
    go_enter Tryz.func77, Tryz.ntmps77
    go_wp2_with fail
    refine (HA.out _).mono ?_
    rintro e w1 ⟨rfl, h1⟩
    obtain ⟨hc, hf⟩ := bcell h1
    have hs := h1.size
    simp at hs
    go_wp2_with fail
    refine (HB.out _).mono ?_
    rintro e w2 ⟨rfl, h2⟩
    have h2 := beyond h1 h2
    clear hc hf hs
    obtain ⟨hc, hf⟩ := bcell h2
    have hs := h2.size
    simp at hs
    go_wp2
    refine bodyPost_ret (v := .tuple #[rv 0 0, .int .i64 20]) (by simp [results, Tryz.results77, go_sem, hc]) rfl ⟨rfl, ?_⟩
    exact set2 (beyond (three w _ _ _) h2) (by omega) _ _
set_option maxHeartbeats 1000000 in
theorem hold_ok (hi lo dh dl : Int) (g : Bool) (w : World) (HA : Hid (Asks hi lo (mostOf g) true)) (HB : Hid (Asks dh dl 9223372036854775807 true)) (l0 : 0 ≤ lo) (l1 : lo ≤ mostOf g) (d0 : 0 ≤ dl) (d1 : dl ≤ 9223372036854775807) :
    Calls Tryz.prog 77 #[.agg #[.int .u64 hi, .int .u64 lo, .bool g], .agg #[.int .u64 dh, .int .u64 dl]] w fun e w' => e = .returned (.tuple #[rv (if g then -lo else lo) dl, .int .i64 0]) ∧ Below w.heap.size w w' := by
  cases g
  · have l1 : lo ≤ 9223372036854775807 := l1
    have E : Hid ((if false = true then -lo else lo) = lo) := rfl
    rw [E.out]
    clear E
    go_enter Tryz.func77, Tryz.ntmps77
    go_wp2_with fail
    refine (HA.out _).mono ?_
    rintro e w1 ⟨rfl, h1⟩
    obtain ⟨hc, hf⟩ := bcell h1
    have hs := h1.size
    simp at hs
    go_wp2_with fail
    refine (HB.out _).mono ?_
    rintro e w2 ⟨rfl, h2⟩
    have h2 := beyond h1 h2
    clear hc hf hs
    obtain ⟨hc, hf⟩ := bcell h2
    have hs := h2.size
    simp at hs
    go_wp2
    refine bodyPost_ret (v := .tuple #[rv lo dl, .int .i64 0]) (by simp [results, Tryz.results77, go_sem, hc]) rfl ⟨rfl, ?_⟩
    exact set2 (beyond (three w _ _ _) h2) (by omega) _ _
  · have l1 : lo ≤ 9223372036854775808 := l1
    have E : Hid ((if true = true then -lo else lo) = -lo) := rfl
    rw [E.out]
    clear E
    have F : Hid (wrap64 (-(wrap64 lo)) = -lo) := by show wrap64 (-(wrap64 lo)) = -lo; unfold wrap64; omega
    go_enter Tryz.func77, Tryz.ntmps77
    go_wp2_with fail
    refine (HA.out _).mono ?_
    rintro e w1 ⟨rfl, h1⟩
    obtain ⟨hc, hf⟩ := bcell h1
    have hs := h1.size
    simp at hs
    go_wp2_with fail
    refine (HB.out _).mono ?_
    rintro e w2 ⟨rfl, h2⟩
    have h2 := beyond h1 h2
    clear hc hf hs
    obtain ⟨hc, hf⟩ := bcell h2
    have hs := h2.size
    simp at hs
    go_wp2
    rw [← F.out]
    refine bodyPost_ret (v := .tuple #[rv (wrap64 (-(wrap64 lo))) dl, .int .i64 0]) (by simp [results, Tryz.results77, go_sem, hc]) rfl ⟨rfl, ?_⟩
    exact set2 (beyond (three w _ _ _) h2) (by omega) _ _

/-- Can the fraction with these lowest terms be held? -/
def canHold (N D : Int) (g : Bool) : Bool := decide (N ≤ mostOf g) && decide (D ≤ 9223372036854775807)
def heldN (N D : Int) (g : Bool) : Int := if canHold N D g then (if g then -N else N) else 0
def heldD (N D : Int) (g : Bool) : Int := if canHold N D g then D else 0
def heldE (N D : Int) (g : Bool) : Int := if canHold N D g then 0 else 20
theorem hold_any (N D : Int) (g : Bool) (w : World) (hN : U128 N) (hD : U128 D) :
    Calls Tryz.prog 77 #[sv N g, wv D] w fun e w' => e = .returned (.tuple #[rv (heldN N D g) (heldD N D g), .int .i64 (heldE N D g)]) ∧ Below w.heap.size w w' := by
  have hm : mostOf g ≤ 18446744073709551615 := by unfold mostOf; split <;> decide
  have A : Asks (hiW N) (loW N) (mostOf g) (decide (N ≤ mostOf g)) := fun w => atMostW_any N (mostOf g) w hN.1 hm
  have B : Asks (hiW D) (loW D) 9223372036854775807 (decide (D ≤ 9223372036854775807)) := fun w => atMostW_any D 9223372036854775807 w hD.1 (by decide)
  by_cases c1 : N ≤ mostOf g
  · rw [decide_eq_true c1] at A
    by_cases c2 : D ≤ 9223372036854775807
    · rw [decide_eq_true c2] at B
      have c : canHold N D g = true := by simp [canHold, c1, c2]
      have n1 := lo_small hN.1 (by omega : N ≤ 18446744073709551615)
      have d1 := lo_small hD.1 (by omega : D ≤ 18446744073709551615)
      have h := hold_ok (hiW N) (loW N) (hiW D) (loW D) g w A B (lo_bd N).1 (by rw [n1]; exact c1) (lo_bd D).1 (by rw [d1]; exact c2)
      have e1 : heldN N D g = if g then -(loW N) else loW N := by simp [heldN, c, n1]
      have e2 : heldD N D g = loW D := by simp [heldD, c, d1]
      have e3 : heldE N D g = 0 := by simp [heldE, c]
      rw [e1, e2, e3]
      exact h
    · rw [decide_eq_false c2] at B
      have c : canHold N D g = false := by simp [canHold, c2]
      have e1 : heldN N D g = 0 := by simp [heldN, c]
      have e2 : heldD N D g = 0 := by simp [heldD, c]
      have e3 : heldE N D g = 20 := by simp [heldE, c]
      rw [e1, e2, e3]
      exact hold_over2 _ _ _ _ g w A B
  · rw [decide_eq_false c1] at A
    have c : canHold N D g = false := by simp [canHold, c1]
    have e1 : heldN N D g = 0 := by simp [heldN, c]
    have e2 : heldD N D g = 0 := by simp [heldD, c]
    have e3 : heldE N D g = 20 := by simp [heldE, c]
    rw [e1, e2, e3]
    exact hold_over1 _ _ _ _ g w A

/-! ### Right -/
def rightR (n d : Int) : Bool := decide (0 < d) && (gcdI (sz n) (sz d) == 1)
set_option maxHeartbeats 1000000 in
theorem rightR_any (n d : Int) (w : World) (n0 : -9223372036854775808 ≤ n) (n1 : n ≤ 9223372036854775807) (d0 : -9223372036854775808 ≤ d) (d1 : d ≤ 9223372036854775807) :
    Calls Tryz.prog 55 #[rv n d] w fun e w' => e = .returned (.bool (rightR n d)) ∧ Below w.heap.size w w' := by
  have bn := sz_bd n n0 n1
  have bd := sz_bd d d0 d1
  have hn : U64 (sz n) := ⟨bn.1, by omega⟩
  have hd : U64 (sz d) := ⟨bd.1, by omega⟩
  have HN := hideR hn
  have HD := hideR hd
  by_cases c : 0 < d
  · have e : rightR n d = (gcdI (sz n) (sz d) == 1) := by simp [rightR, c]
    rw [e]
    clear e hn hd bn bd
    go_enter Tryz.func55, Tryz.ntmps55
    go_wp2
    go_quiet ((first | (go_at_call 75; exact Calls.quiet_of_same (size_any _ _ (by assumption) (by assumption))) | (go_at_call 76; exact Calls.quiet_of (gcd_draws _ _ _ HN.out HD.out))))
    go_wp2
    go_ret
    exact ⟨rfl, below_drewN (single _ _) _⟩
  · have e : rightR n d = false := by simp [rightR, c]
    rw [e]
    have c' : decide (0 < d) = false := by simpa using c
    clear e hn hd bn bd c
    go_enter Tryz.func55, Tryz.ntmps55
    go_wp2
    go_quiet (fail)
    go_wp2
    go_ret
    exact ⟨rfl, below_drewN (single _ _) _⟩
end Go.Proofs.YteifpplemohdcaaGreatDoor

/-
  The contracts of rat.New, termsOf, opposite, times, add, sign and Compare.
-/
namespace Go.Proofs.YteifpplemohdcaaGreatDoor
open Go.RowKit Go.Shelf
set_option linter.unusedVariables false

theorem kc {W w1 : World} (a : Addr) (v : Value) (hb : Below W.heap.size W w1) (h : W.cell? a = some v) : w1.cell? a = some v := (hb.cell (World.block_lt_of_cell? _ _ h)).trans h
theorem kf {W w1 : World} (a : Addr) (v : Value) (hb : Below W.heap.size W w1) (h : W.cell? a = some v) (g : W.frozen? a = false) : w1.frozen? a = false := (hb.frozen (World.block_lt_of_cell? _ _ h)).trans g
theorem new_zero (n : Int) (w : World) :
    Calls Tryz.prog 43 #[.int .i64 n, .int .i64 0] w fun e w' => e = .returned (.tuple #[rv 0 0, .int .i64 21]) ∧ Below w.heap.size w w' := by
  go_enter Tryz.func43, Tryz.ntmps43
  go_wp2
  exact bodyPost_ret (v := .tuple #[rv 0 0, .int .i64 21]) (by simp [results, Tryz.results43, go_sem]) rfl ⟨rfl, by first | exact single _ _ | exact set2 (single _ _) (by omega) _ _⟩

theorem quo_eq (a g : Int) (a0 : 0 ≤ a) (a1 : a ≤ 18446744073709551615) (hg : 0 < g) : IntKind.u64.wrap (a.tdiv g) = a / g := by
  rw [Int.tdiv_eq_ediv_of_nonneg a0, IntKind.wrap_u64]
  have h1 := Int.ediv_nonneg a0 (Int.le_of_lt hg)
  have h2 : a / g ≤ a := Int.ediv_le_self g a0
  omega
set_option maxRecDepth 100000 in
set_option maxHeartbeats 4000000 in
theorem new_raw (n d a b g : Int) (s t : Bool) (w : World) (x y z : Int) (hs : decide (n < 0) = s) (ht : decide (d < 0) = t) (hd : (d == 0) = false) (hg : 0 < g) (ga : g ≤ 18446744073709551615) (a0 : 0 ≤ a) (a1 : a ≤ 18446744073709551615) (b0 : 0 ≤ b) (b1 : b ≤ 18446744073709551615)
    (HSn : Hid (∀ w, Calls Tryz.prog 75 #[.int .i64 n] w fun e w' => e = .returned (.int .u64 a) ∧ w' = w))
    (HSd : Hid (∀ w, Calls Tryz.prog 75 #[.int .i64 d] w fun e w' => e = .returned (.int .u64 b) ∧ w' = w))
    (HG : Hid (∀ w, Calls Tryz.prog 76 #[.int .u64 a, .int .u64 b] w fun e w' => e = .returned (.int .u64 g) ∧ ∃ m, w' = w.drewN m))
    (HNa : Hid (∀ w, Calls Tryz.prog 78 #[.int .u64 (a / g)] w fun e w' => e = .returned (.agg #[.int .u64 0, .int .u64 (a / g)]) ∧ Below w.heap.size w w'))
    (HNb : Hid (∀ w, Calls Tryz.prog 78 #[.int .u64 (b / g)] w fun e w' => e = .returned (.agg #[.int .u64 0, .int .u64 (b / g)]) ∧ Below w.heap.size w w'))
    (HH : Hid (∀ w, Calls Tryz.prog 77 #[.agg #[.int .u64 0, .int .u64 (a / g), .bool (s != t)], .agg #[.int .u64 0, .int .u64 (b / g)]] w fun e w' => e = .returned (.tuple #[rv x y, .int .i64 z]) ∧ Below w.heap.size w w')) :
    Calls Tryz.prog 43 #[.int .i64 n, .int .i64 d] w fun e w' => e = .returned (.tuple #[rv x y, .int .i64 z]) ∧ Below w.heap.size w w' := by
  have g0 : ¬ g = 0 := by omega
  have qa := quo_eq a g a0 a1 hg
  have qb := quo_eq b g b0 b1 hg
  clear hg ga a0 a1 b0 b1
  go_enter Tryz.func43, Tryz.ntmps43
  go_wp2_with fail
  refine (HSn.out _).mono ?_
  rintro e w' ⟨rfl, rfl⟩
  go_wp2_with fail
  refine (HSd.out _).mono ?_
  rintro e w' ⟨rfl, rfl⟩
  go_wp2_with fail
  refine (HG.out _).mono ?_
  rintro e w' ⟨rfl, m, rfl⟩
  go_wp2_with fail
  go_region_with (first
      | (go_at_call_of 78 (a / g); refine (HNa.out _).mono ?_; rintro e w' ⟨rfl, hb⟩; have f0 := kf ⟨w.heap.size, 0, none⟩ (.int .i64 0) hb (by first | assumption | simp [go_sem]) (by first | assumption | simp [go_sem]); have f1 := kf ⟨w.heap.size, 1, none⟩ (.int .i64 0) hb (by first | assumption | simp [go_sem]) (by first | assumption | simp [go_sem]); have c0 := kc ⟨w.heap.size, 0, none⟩ (.int .i64 0) hb (by first | assumption | simp [go_sem]); have c1 := kc ⟨w.heap.size, 1, none⟩ (.int .i64 0) hb (by first | assumption | simp [go_sem]); have hB := beyond (by first | assumption | exact below_drewN (single _ _) _) hb)
      | (go_at_call 78; refine (HNb.out _).mono ?_; rintro e w' ⟨rfl, hb⟩; have f0 := kf ⟨w.heap.size, 0, none⟩ (.int .i64 0) hb (by first | assumption | simp [go_sem]) (by first | assumption | simp [go_sem]); have f1 := kf ⟨w.heap.size, 1, none⟩ (.int .i64 0) hb (by first | assumption | simp [go_sem]) (by first | assumption | simp [go_sem]); have c0 := kc ⟨w.heap.size, 0, none⟩ (.int .i64 0) hb (by first | assumption | simp [go_sem]); have c1 := kc ⟨w.heap.size, 1, none⟩ (.int .i64 0) hb (by first | assumption | simp [go_sem]); have hB := beyond (by first | assumption | exact below_drewN (single _ _) _) hb)
      | (go_at_call 77; refine (HH.out _).mono ?_; rintro e w' ⟨rfl, hb⟩; have f0 := kf ⟨w.heap.size, 0, none⟩ (.int .i64 0) hb (by first | assumption | simp [go_sem]) (by first | assumption | simp [go_sem]); have f1 := kf ⟨w.heap.size, 1, none⟩ (.int .i64 0) hb (by first | assumption | simp [go_sem]) (by first | assumption | simp [go_sem]); have c0 := kc ⟨w.heap.size, 0, none⟩ (.int .i64 0) hb (by first | assumption | simp [go_sem]); have c1 := kc ⟨w.heap.size, 1, none⟩ (.int .i64 0) hb (by first | assumption | simp [go_sem]); have hB := beyond (by first | assumption | exact below_drewN (single _ _) _) hb))
  all_goals
    go_wp2
    refine bodyPost_ret (v := .tuple #[rv x y, .int .i64 z]) (by simp [results, Tryz.results43, go_sem, *]) rfl ⟨rfl, ?_⟩
    exact set2 (by assumption) (Nat.le_refl _) _ _
end Go.Proofs.YteifpplemohdcaaGreatDoor

/-
  The contracts of rat.termsOf, opposite, times, add, sign and Compare.
-/
namespace Go.Proofs.YteifpplemohdcaaGreatDoor
open Go.RowKit Go.Shelf
set_option linter.unusedVariables false

set_option maxRecDepth 100000 in
set_option maxHeartbeats 4000000 in
theorem times_raw (n d f a b : Int) (g : Bool) (w : World) (HP : Hid (∀ w, Calls Tryz.prog 144 #[.int .u64 n, .int .u64 f] w fun e w' => e = .returned (.agg #[.int .u64 a, .int .u64 b]) ∧ Below w.heap.size w w')) :
    Calls Tryz.prog 126 #[tv n d g, .int .u64 f] w fun e w' => e = .returned (.agg #[.int .u64 a, .int .u64 b, .bool g]) ∧ Below w.heap.size w w' := by
  go_enter Tryz.func126, Tryz.ntmps126
  go_wp2
  go_region_held3 (fun w' => w'.cell? ⟨w.heap.size, 0, none⟩ = some (.int .u64 n) ∧ w'.cell? ⟨w.heap.size, 2, none⟩ = some (.bool g))
    (first | exact ⟨by assumption, by assumption⟩ | go_keep)
    (first | (go_at_call 144; refine (HP.out _).mono ?_; rintro e w' ⟨rfl, hb⟩; have s0 := kc ⟨w.heap.size, 0, none⟩ (.int .u64 n) hb (by simp [go_sem]); have s2 := kc ⟨w.heap.size, 2, none⟩ (.bool g) hb (by simp [go_sem]); have f0 := kf ⟨w.heap.size + 1, 0, none⟩ (.int .u64 0) hb (by simp [go_sem]) (by simp [go_sem]); have f1 := kf ⟨w.heap.size + 1, 1, none⟩ (.int .u64 0) hb (by simp [go_sem]) (by simp [go_sem]); have f2 := kf ⟨w.heap.size + 1, 2, none⟩ (.bool false) hb (by simp [go_sem]) (by simp [go_sem]); have c0 := kc ⟨w.heap.size + 1, 0, none⟩ (.int .u64 0) hb (by simp [go_sem]); have c1 := kc ⟨w.heap.size + 1, 1, none⟩ (.int .u64 0) hb (by simp [go_sem]); have c2 := kc ⟨w.heap.size + 1, 2, none⟩ (.bool false) hb (by simp [go_sem]); have hB := beyond (two w _ _).drew hb))
  go_wp2
  refine bodyPost_ret (v := .agg #[.int .u64 a, .int .u64 b, .bool g]) (by simp [results, Tryz.results126, go_sem, *]) rfl ⟨rfl, ?_⟩
  exact set3 (by assumption) (Nat.le_succ _) _ _ _

set_option maxRecDepth 100000 in
set_option maxHeartbeats 4000000 in
theorem termsOf_raw (n d a b : Int) (g : Bool) (w : World) (hg : decide (n < 0) = g)
    (HSn : Hid (∀ w, Calls Tryz.prog 75 #[.int .i64 n] w fun e w' => e = .returned (.int .u64 a) ∧ w' = w))
    (HSd : Hid (∀ w, Calls Tryz.prog 75 #[.int .i64 d] w fun e w' => e = .returned (.int .u64 b) ∧ w' = w)) :
    Calls Tryz.prog 125 #[rv n d] w fun e w' => e = .returned (tv a b g) ∧ Below w.heap.size w w' := by
  go_enter Tryz.func125, Tryz.ntmps125
  go_wp2
  go_region_held3 (fun w' => w'.cell? ⟨w.heap.size, 0, none⟩ = some (.int .i64 n) ∧ w'.cell? ⟨w.heap.size, 1, none⟩ = some (.int .i64 d))
    (first | exact ⟨by assumption, by assumption⟩ | go_keep)
    (first | (go_at_call_of 75 (n); refine (HSn.out _).mono ?_; rintro e w' ⟨rfl, rfl⟩) | (go_at_call 75; refine (HSd.out _).mono ?_; rintro e w' ⟨rfl, rfl⟩))
  all_goals
    go_wp2
    refine bodyPost_ret (v := tv a b g) (by simp [results, Tryz.results125, go_sem, *]) rfl ⟨rfl, ?_⟩
    first | exact (two w _ _).drew | exact below_drewN (two w _ _) _ | exact set3 (two w _ _).drew (Nat.le_succ _) _ _ _
theorem termsOf_any (n d : Int) (w : World) (n0 : -9223372036854775808 ≤ n) (n1 : n ≤ 9223372036854775807) (d0 : -9223372036854775808 ≤ d) (d1 : d ≤ 9223372036854775807) :
    Calls Tryz.prog 125 #[rv n d] w fun e w' => e = .returned (tv (sz n) (sz d) (decide (n < 0))) ∧ Below w.heap.size w w' :=
  termsOf_raw n d _ _ _ w rfl (fun w => size_any n w n0 n1) (fun w => size_any d w d0 d1)
theorem opposite_any (n d : Int) (g : Bool) (w : World) :
    Calls Tryz.prog 128 #[tv n d g] w fun e w' => e = .returned (tv n d (!g)) ∧ Below w.heap.size w w' := by
  go_enter Tryz.func128, Tryz.ntmps128
  go_wp2
  refine bodyPost_ret (v := tv n d (!g)) (by simp [results, Tryz.results128, go_sem]) rfl ⟨rfl, ?_⟩
  first | exact two w _ _ | exact three w _ _ _ | exact single w _
theorem times_any (n d f : Int) (g : Bool) (w : World) (hn : U64 n) (hf : U64 f) :
    Calls Tryz.prog 126 #[tv n d g, .int .u64 f] w fun e w' => e = .returned (sv (n * f) g) ∧ Below w.heap.size w w' :=
  times_raw n d f _ _ g w (fun w => product_any n f w hn hf)

/-! ### add -/
set_option maxRecDepth 100000 in
set_option maxHeartbeats 4000000 in
theorem add_same (a b c d p q : Int) (g h : Bool) (w : World) (hs : (g == h) = true)
    (HP : Hid (∀ w, Calls Tryz.prog 145 #[.agg #[.int .u64 a, .int .u64 b], .agg #[.int .u64 c, .int .u64 d]] w fun e w' => e = .returned (.agg #[.int .u64 p, .int .u64 q]) ∧ Below w.heap.size w w')) :
    Calls Tryz.prog 127 #[.agg #[.int .u64 a, .int .u64 b, .bool g], .agg #[.int .u64 c, .int .u64 d, .bool h]] w fun e w' => e = .returned (.agg #[.int .u64 p, .int .u64 q, .bool g]) ∧ Below w.heap.size w w' := by
  have n1 : ¬ w.heap.size = w.heap.size + 1 + 1 := by omega
  have n2 : ¬ w.heap.size + 1 + 1 = w.heap.size := by omega
  go_enter Tryz.func127, Tryz.ntmps127
  go_wp2_with fail
  go_region_held3 (fun w' => w'.cell? ⟨w.heap.size, 0, none⟩ = some (.int .u64 a) ∧ w'.cell? ⟨w.heap.size, 1, none⟩ = some (.int .u64 b) ∧ w'.cell? ⟨w.heap.size, 2, none⟩ = some (.bool g) ∧ w'.cell? ⟨w.heap.size + 1, 0, none⟩ = some (.int .u64 c) ∧ w'.cell? ⟨w.heap.size + 1, 1, none⟩ = some (.int .u64 d) ∧ w'.cell? ⟨w.heap.size + 1, 2, none⟩ = some (.bool h))
    (first | exact ⟨by assumption, by assumption, by assumption, by assumption, by assumption, by assumption⟩ | go_keep)
    (first | (go_at_call 145; refine (HP.out _).mono ?_; rintro e w' ⟨rfl, hb⟩; have s0 := kc ⟨w.heap.size, 0, none⟩ (.int .u64 a) hb (by first | assumption | simp [go_sem, *]); have s1 := kc ⟨w.heap.size, 1, none⟩ (.int .u64 b) hb (by first | assumption | simp [go_sem, *]); have s2 := kc ⟨w.heap.size, 2, none⟩ (.bool g) hb (by first | assumption | simp [go_sem, *]); have s3 := kc ⟨w.heap.size + 1, 0, none⟩ (.int .u64 c) hb (by first | assumption | simp [go_sem, *]); have s4 := kc ⟨w.heap.size + 1, 1, none⟩ (.int .u64 d) hb (by first | assumption | simp [go_sem, *]); have s5 := kc ⟨w.heap.size + 1, 2, none⟩ (.bool h) hb (by first | assumption | simp [go_sem, *]); have s6 := kc ⟨w.heap.size + 1 + 1, 0, none⟩ (.int .u64 0) hb (by first | assumption | simp [go_sem, *]); have s7 := kc ⟨w.heap.size + 1 + 1, 1, none⟩ (.int .u64 0) hb (by first | assumption | simp [go_sem, *]); have s8 := kc ⟨w.heap.size + 1 + 1, 2, none⟩ (.bool false) hb (by first | assumption | simp [go_sem, *]); have s9 := kf ⟨w.heap.size + 1 + 1, 0, none⟩ (.int .u64 0) hb (by first | assumption | simp [go_sem, *]) (by first | assumption | simp [go_sem, *]); have s10 := kf ⟨w.heap.size + 1 + 1, 1, none⟩ (.int .u64 0) hb (by first | assumption | simp [go_sem, *]) (by first | assumption | simp [go_sem, *]); have s11 := kf ⟨w.heap.size + 1 + 1, 2, none⟩ (.bool false) hb (by first | assumption | simp [go_sem, *]) (by first | assumption | simp [go_sem, *]); have hB := beyond (by first | assumption | exact Below.drew (three w _ _ _) | exact Below.drew (by assumption) | exact below_drewN (three w _ _ _) _ | exact three w _ _ _) hb))
  all_goals
    go_wp2
    refine bodyPost_ret (v := .agg #[.int .u64 p, .int .u64 q, .bool g]) (by simp [results, Tryz.results127, go_sem, *]) rfl ⟨rfl, ?_⟩
    exact set3 (by assumption) (by omega) _ _ _
set_option maxRecDepth 100000 in
set_option maxHeartbeats 4000000 in
theorem add_less (a b c d p q : Int) (g h : Bool) (w : World) (hs : (g == h) = false)
    (HQ : Hid (∀ w, Calls Tryz.prog 146 #[.agg #[.int .u64 a, .int .u64 b], .agg #[.int .u64 c, .int .u64 d]] w fun e w' => e = .returned (.bool true) ∧ Below w.heap.size w w'))
    (HP : Hid (∀ w, Calls Tryz.prog 147 #[.agg #[.int .u64 c, .int .u64 d], .agg #[.int .u64 a, .int .u64 b]] w fun e w' => e = .returned (.agg #[.int .u64 p, .int .u64 q]) ∧ Below w.heap.size w w')) :
    Calls Tryz.prog 127 #[.agg #[.int .u64 a, .int .u64 b, .bool g], .agg #[.int .u64 c, .int .u64 d, .bool h]] w fun e w' => e = .returned (.agg #[.int .u64 p, .int .u64 q, .bool h]) ∧ Below w.heap.size w w' := by
  have n1 : ¬ w.heap.size = w.heap.size + 1 + 1 := by omega
  have n2 : ¬ w.heap.size + 1 + 1 = w.heap.size := by omega
  go_enter Tryz.func127, Tryz.ntmps127
  go_wp2_with fail
  refine (HQ.out _).mono ?_
  rintro e w1 ⟨rfl, hb⟩
  have s0 := kc ⟨w.heap.size, 0, none⟩ (.int .u64 a) hb (by first | assumption | simp [go_sem, *])
  have s1 := kc ⟨w.heap.size, 1, none⟩ (.int .u64 b) hb (by first | assumption | simp [go_sem, *])
  have s2 := kc ⟨w.heap.size, 2, none⟩ (.bool g) hb (by first | assumption | simp [go_sem, *])
  have s3 := kc ⟨w.heap.size + 1, 0, none⟩ (.int .u64 c) hb (by first | assumption | simp [go_sem, *])
  have s4 := kc ⟨w.heap.size + 1, 1, none⟩ (.int .u64 d) hb (by first | assumption | simp [go_sem, *])
  have s5 := kc ⟨w.heap.size + 1, 2, none⟩ (.bool h) hb (by first | assumption | simp [go_sem, *])
  have s6 := kc ⟨w.heap.size + 1 + 1, 0, none⟩ (.int .u64 0) hb (by first | assumption | simp [go_sem, *])
  have s7 := kc ⟨w.heap.size + 1 + 1, 1, none⟩ (.int .u64 0) hb (by first | assumption | simp [go_sem, *])
  have s8 := kc ⟨w.heap.size + 1 + 1, 2, none⟩ (.bool false) hb (by first | assumption | simp [go_sem, *])
  have s9 := kf ⟨w.heap.size + 1 + 1, 0, none⟩ (.int .u64 0) hb (by first | assumption | simp [go_sem, *]) (by first | assumption | simp [go_sem, *])
  have s10 := kf ⟨w.heap.size + 1 + 1, 1, none⟩ (.int .u64 0) hb (by first | assumption | simp [go_sem, *]) (by first | assumption | simp [go_sem, *])
  have s11 := kf ⟨w.heap.size + 1 + 1, 2, none⟩ (.bool false) hb (by first | assumption | simp [go_sem, *]) (by first | assumption | simp [go_sem, *])
  have hB := beyond (by first | assumption | exact Below.drew (three w _ _ _) | exact Below.drew (by assumption) | exact below_drewN (three w _ _ _) _ | exact three w _ _ _) hb
  clear hb
  go_wp2_with fail
  go_region_held3 (fun w' => w'.cell? ⟨w.heap.size, 0, none⟩ = some (.int .u64 a) ∧ w'.cell? ⟨w.heap.size, 1, none⟩ = some (.int .u64 b) ∧ w'.cell? ⟨w.heap.size, 2, none⟩ = some (.bool g) ∧ w'.cell? ⟨w.heap.size + 1, 0, none⟩ = some (.int .u64 c) ∧ w'.cell? ⟨w.heap.size + 1, 1, none⟩ = some (.int .u64 d) ∧ w'.cell? ⟨w.heap.size + 1, 2, none⟩ = some (.bool h))
    (first | exact ⟨by assumption, by assumption, by assumption, by assumption, by assumption, by assumption⟩ | go_keep)
    (first | (go_at_call 147; refine (HP.out _).mono ?_; rintro e w' ⟨rfl, hb⟩; have s0 := kc ⟨w.heap.size, 0, none⟩ (.int .u64 a) hb (by first | assumption | simp [go_sem, *]); have s1 := kc ⟨w.heap.size, 1, none⟩ (.int .u64 b) hb (by first | assumption | simp [go_sem, *]); have s2 := kc ⟨w.heap.size, 2, none⟩ (.bool g) hb (by first | assumption | simp [go_sem, *]); have s3 := kc ⟨w.heap.size + 1, 0, none⟩ (.int .u64 c) hb (by first | assumption | simp [go_sem, *]); have s4 := kc ⟨w.heap.size + 1, 1, none⟩ (.int .u64 d) hb (by first | assumption | simp [go_sem, *]); have s5 := kc ⟨w.heap.size + 1, 2, none⟩ (.bool h) hb (by first | assumption | simp [go_sem, *]); have s6 := kc ⟨w.heap.size + 1 + 1, 0, none⟩ (.int .u64 0) hb (by first | assumption | simp [go_sem, *]); have s7 := kc ⟨w.heap.size + 1 + 1, 1, none⟩ (.int .u64 0) hb (by first | assumption | simp [go_sem, *]); have s8 := kc ⟨w.heap.size + 1 + 1, 2, none⟩ (.bool false) hb (by first | assumption | simp [go_sem, *]); have s9 := kf ⟨w.heap.size + 1 + 1, 0, none⟩ (.int .u64 0) hb (by first | assumption | simp [go_sem, *]) (by first | assumption | simp [go_sem, *]); have s10 := kf ⟨w.heap.size + 1 + 1, 1, none⟩ (.int .u64 0) hb (by first | assumption | simp [go_sem, *]) (by first | assumption | simp [go_sem, *]); have s11 := kf ⟨w.heap.size + 1 + 1, 2, none⟩ (.bool false) hb (by first | assumption | simp [go_sem, *]) (by first | assumption | simp [go_sem, *]); have hB := beyond (by first | assumption | exact Below.drew (three w _ _ _) | exact Below.drew (by assumption) | exact below_drewN (three w _ _ _) _ | exact three w _ _ _) hb))
  all_goals
    go_wp2
    refine bodyPost_ret (v := .agg #[.int .u64 p, .int .u64 q, .bool h]) (by simp [results, Tryz.results127, go_sem, *]) rfl ⟨rfl, ?_⟩
    exact set3 (by assumption) (by omega) _ _ _
set_option maxRecDepth 100000 in
set_option maxHeartbeats 4000000 in
theorem add_more (a b c d p q : Int) (g h : Bool) (w : World) (hs : (g == h) = false)
    (HQ : Hid (∀ w, Calls Tryz.prog 146 #[.agg #[.int .u64 a, .int .u64 b], .agg #[.int .u64 c, .int .u64 d]] w fun e w' => e = .returned (.bool false) ∧ Below w.heap.size w w'))
    (HP : Hid (∀ w, Calls Tryz.prog 147 #[.agg #[.int .u64 a, .int .u64 b], .agg #[.int .u64 c, .int .u64 d]] w fun e w' => e = .returned (.agg #[.int .u64 p, .int .u64 q]) ∧ Below w.heap.size w w')) :
    Calls Tryz.prog 127 #[.agg #[.int .u64 a, .int .u64 b, .bool g], .agg #[.int .u64 c, .int .u64 d, .bool h]] w fun e w' => e = .returned (.agg #[.int .u64 p, .int .u64 q, .bool g]) ∧ Below w.heap.size w w' := by
  have n1 : ¬ w.heap.size = w.heap.size + 1 + 1 := by omega
  have n2 : ¬ w.heap.size + 1 + 1 = w.heap.size := by omega
  go_enter Tryz.func127, Tryz.ntmps127
  go_wp2_with fail
  refine (HQ.out _).mono ?_
  rintro e w1 ⟨rfl, hb⟩
  have s0 := kc ⟨w.heap.size, 0, none⟩ (.int .u64 a) hb (by first | assumption | simp [go_sem, *])
  have s1 := kc ⟨w.heap.size, 1, none⟩ (.int .u64 b) hb (by first | assumption | simp [go_sem, *])
  have s2 := kc ⟨w.heap.size, 2, none⟩ (.bool g) hb (by first | assumption | simp [go_sem, *])
  have s3 := kc ⟨w.heap.size + 1, 0, none⟩ (.int .u64 c) hb (by first | assumption | simp [go_sem, *])
  have s4 := kc ⟨w.heap.size + 1, 1, none⟩ (.int .u64 d) hb (by first | assumption | simp [go_sem, *])
  have s5 := kc ⟨w.heap.size + 1, 2, none⟩ (.bool h) hb (by first | assumption | simp [go_sem, *])
  have s6 := kc ⟨w.heap.size + 1 + 1, 0, none⟩ (.int .u64 0) hb (by first | assumption | simp [go_sem, *])
  have s7 := kc ⟨w.heap.size + 1 + 1, 1, none⟩ (.int .u64 0) hb (by first | assumption | simp [go_sem, *])
  have s8 := kc ⟨w.heap.size + 1 + 1, 2, none⟩ (.bool false) hb (by first | assumption | simp [go_sem, *])
  have s9 := kf ⟨w.heap.size + 1 + 1, 0, none⟩ (.int .u64 0) hb (by first | assumption | simp [go_sem, *]) (by first | assumption | simp [go_sem, *])
  have s10 := kf ⟨w.heap.size + 1 + 1, 1, none⟩ (.int .u64 0) hb (by first | assumption | simp [go_sem, *]) (by first | assumption | simp [go_sem, *])
  have s11 := kf ⟨w.heap.size + 1 + 1, 2, none⟩ (.bool false) hb (by first | assumption | simp [go_sem, *]) (by first | assumption | simp [go_sem, *])
  have hB := beyond (by first | assumption | exact Below.drew (three w _ _ _) | exact Below.drew (by assumption) | exact below_drewN (three w _ _ _) _ | exact three w _ _ _) hb
  clear hb
  go_wp2_with fail
  go_region_held3 (fun w' => w'.cell? ⟨w.heap.size, 0, none⟩ = some (.int .u64 a) ∧ w'.cell? ⟨w.heap.size, 1, none⟩ = some (.int .u64 b) ∧ w'.cell? ⟨w.heap.size, 2, none⟩ = some (.bool g) ∧ w'.cell? ⟨w.heap.size + 1, 0, none⟩ = some (.int .u64 c) ∧ w'.cell? ⟨w.heap.size + 1, 1, none⟩ = some (.int .u64 d) ∧ w'.cell? ⟨w.heap.size + 1, 2, none⟩ = some (.bool h))
    (first | exact ⟨by assumption, by assumption, by assumption, by assumption, by assumption, by assumption⟩ | go_keep)
    (first | (go_at_call 147; refine (HP.out _).mono ?_; rintro e w' ⟨rfl, hb⟩; have s0 := kc ⟨w.heap.size, 0, none⟩ (.int .u64 a) hb (by first | assumption | simp [go_sem, *]); have s1 := kc ⟨w.heap.size, 1, none⟩ (.int .u64 b) hb (by first | assumption | simp [go_sem, *]); have s2 := kc ⟨w.heap.size, 2, none⟩ (.bool g) hb (by first | assumption | simp [go_sem, *]); have s3 := kc ⟨w.heap.size + 1, 0, none⟩ (.int .u64 c) hb (by first | assumption | simp [go_sem, *]); have s4 := kc ⟨w.heap.size + 1, 1, none⟩ (.int .u64 d) hb (by first | assumption | simp [go_sem, *]); have s5 := kc ⟨w.heap.size + 1, 2, none⟩ (.bool h) hb (by first | assumption | simp [go_sem, *]); have s6 := kc ⟨w.heap.size + 1 + 1, 0, none⟩ (.int .u64 0) hb (by first | assumption | simp [go_sem, *]); have s7 := kc ⟨w.heap.size + 1 + 1, 1, none⟩ (.int .u64 0) hb (by first | assumption | simp [go_sem, *]); have s8 := kc ⟨w.heap.size + 1 + 1, 2, none⟩ (.bool false) hb (by first | assumption | simp [go_sem, *]); have s9 := kf ⟨w.heap.size + 1 + 1, 0, none⟩ (.int .u64 0) hb (by first | assumption | simp [go_sem, *]) (by first | assumption | simp [go_sem, *]); have s10 := kf ⟨w.heap.size + 1 + 1, 1, none⟩ (.int .u64 0) hb (by first | assumption | simp [go_sem, *]) (by first | assumption | simp [go_sem, *]); have s11 := kf ⟨w.heap.size + 1 + 1, 2, none⟩ (.bool false) hb (by first | assumption | simp [go_sem, *]) (by first | assumption | simp [go_sem, *]); have hB := beyond (by first | assumption | exact Below.drew (three w _ _ _) | exact Below.drew (by assumption) | exact below_drewN (three w _ _ _) _ | exact three w _ _ _) hb))
  all_goals
    go_wp2
    refine bodyPost_ret (v := .agg #[.int .u64 p, .int .u64 q, .bool g]) (by simp [results, Tryz.results127, go_sem, *]) rfl ⟨rfl, ?_⟩
    exact set3 (by assumption) (by omega) _ _ _
end Go.Proofs.YteifpplemohdcaaGreatDoor
