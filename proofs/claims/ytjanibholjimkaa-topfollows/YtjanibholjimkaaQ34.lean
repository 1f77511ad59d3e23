/-
  The contracts of rat.hold, termsOf, opposite, times, add, sign and Right: signed numbers of 128 bits, terms of fractions, and whether a fraction is in lowest terms.
-/
import Derived.Test.YtjanibholjimkaaQ33
namespace Go.Proofs.Ytjanibholjimkaa
open Go.RowKit Go.Shelf
set_option linter.unusedVariables false

abbrev sv (N : Int) (g : Bool) : Value := .agg #[.int .u64 (hiW N), .int .u64 (loW N), .bool g]
abbrev tv (n d : Int) (g : Bool) : Value := .agg #[.int .u64 n, .int .u64 d, .bool g]
abbrev rv (n d : Int) : Value := .agg #[.int .i64 n, .int .i64 d]
theorem bcell {W w1 : World} (hb : Below W.heap.size W w1) : (∀ b o, b < W.heap.size → w1.cell? ⟨b, o, none⟩ = W.cell? ⟨b, o, none⟩) ∧ (∀ b o, b < W.heap.size → w1.frozen? ⟨b, o, none⟩ = W.frozen? ⟨b, o, none⟩) :=
  ⟨fun b o h => hb.cell (p := ⟨b, o, none⟩) h, fun b o h => hb.frozen (p := ⟨b, o, none⟩) h⟩

theorem set2 {w w1 : World} (hb : Below w.heap.size w w1) {b o1 o2 : Nat} (h : w.heap.size ≤ b) (u1 u2 : Value) : Below w.heap.size w ((w1.setCell ⟨b, o1, none⟩ u1).setCell ⟨b, o2, none⟩ u2) :=
  (hb.setCell h _).setCell h _
theorem set3 {w w1 : World} (hb : Below w.heap.size w w1) {b o1 o2 o3 : Nat} (h : w.heap.size ≤ b) (u1 u2 u3 : Value) : Below w.heap.size w (((w1.setCell ⟨b, o1, none⟩ u1).setCell ⟨b, o2, none⟩ u2).setCell ⟨b, o3, none⟩ u3) :=
  ((hb.setCell h _).setCell h _).setCell h _

def mostOf (g : Bool) : Int := if g then 9223372036854775808 else 9223372036854775807
/-- What atMost tells of a pair of words. -/
abbrev Asks (hi lo n : Int) (r : Bool) : Prop := ∀ w, Calls Try.prog 62 #[.agg #[.int .u64 hi, .int .u64 lo], .int .u64 n] w fun e w' => e = .returned (.bool r) ∧ Below w.heap.size w w'
set_option maxHeartbeats 1000000 in
theorem hold_over1 (hi lo dh dl : Int) (g : Bool) (w : World) (HA : Hid (Asks hi lo (mostOf g) false)) :
    Calls Try.prog 46 #[.agg #[.int .u64 hi, .int .u64 lo, .bool g], .agg #[.int .u64 dh, .int .u64 dl]] w fun e w' => e = .returned (.tuple #[rv 0 0, .int .i64 20]) ∧ Below w.heap.size w w' := by
  cases g
  all_goals
    go_enter Try.func46, Try.ntmps46
    go_wp2_with fail
    refine (HA.out _).mono ?_
    rintro e w1 ⟨rfl, h1⟩
    obtain ⟨hc, hf⟩ := bcell h1
    have hs := h1.size
    simp at hs
    go_wp2
    refine bodyPost_ret (v := .tuple #[rv 0 0, .int .i64 20]) (by simp [results, Try.results46, go_sem, hc]) rfl ⟨rfl, ?_⟩
    exact set2 (beyond (three w _ _ _) h1) (by omega) _ _
set_option maxHeartbeats 1000000 in
theorem hold_over2 (hi lo dh dl : Int) (g : Bool) (w : World) (HA : Hid (Asks hi lo (mostOf g) true)) (HB : Hid (Asks dh dl 9223372036854775807 false)) :
    Calls Try.prog 46 #[.agg #[.int .u64 hi, .int .u64 lo, .bool g], .agg #[.int .u64 dh, .int .u64 dl]] w fun e w' => e = .returned (.tuple #[rv 0 0, .int .i64 20]) ∧ Below w.heap.size w w' := by
  cases g
  all_goals
    go_enter Try.func46, Try.ntmps46
    go_wp2_with fail
    refine (HA.out _).mono ?_
    rintro e w1 ⟨rfl, h1⟩
    obtain ⟨hc, hf⟩ := bcell h1
    have hs := h1.size
    simp at hs
    go_wp2_with fail
    refine (HB.out _).mono ?_
    rintro e w2 ⟨rfl, h2⟩
    have h2 := beyond h1 h2
    clear hc hf hs
    obtain ⟨hc, hf⟩ := bcell h2
    have hs := h2.size
    simp at hs
    go_wp2
    refine bodyPost_ret (v := .tuple #[rv 0 0, .int .i64 20]) (by simp [results, Try.results46, go_sem, hc]) rfl ⟨rfl, ?_⟩
    exact set2 (beyond (three w _ _ _) h2) (by omega) _ _
set_option maxHeartbeats 1000000 in
theorem hold_ok (hi lo dh dl : Int) (g : Bool) (w : World) (HA : Hid (Asks hi lo (mostOf g) true)) (HB : Hid (Asks dh dl 9223372036854775807 true)) (l0 : 0 ≤ lo) (l1 : lo ≤ mostOf g) (d0 : 0 ≤ dl) (d1 : dl ≤ 9223372036854775807) :
    Calls Try.prog 46 #[.agg #[.int .u64 hi, .int .u64 lo, .bool g], .agg #[.int .u64 dh, .int .u64 dl]] w fun e w' => e = .returned (.tuple #[rv (if g then -lo else lo) dl, .int .i64 0]) ∧ Below w.heap.size w w' := by
  cases g
  · have l1 : lo ≤ 9223372036854775807 := l1
    have E : Hid ((if false = true then -lo else lo) = lo) := rfl
    rw [E.out]
    clear E
    go_enter Try.func46, Try.ntmps46
    go_wp2_with fail
    refine (HA.out _).mono ?_
    rintro e w1 ⟨rfl, h1⟩
    obtain ⟨hc, hf⟩ := bcell h1
    have hs := h1.size
    simp at hs
    go_wp2_with fail
    refine (HB.out _).mono ?_
    rintro e w2 ⟨rfl, h2⟩
    have h2 := beyond h1 h2
    clear hc hf hs
    obtain ⟨hc, hf⟩ := bcell h2
    have hs := h2.size
    simp at hs
    go_wp2
    refine bodyPost_ret (v := .tuple #[rv lo dl, .int .i64 0]) (by simp [results, Try.results46, go_sem, hc]) rfl ⟨rfl, ?_⟩
    exact set2 (beyond (three w _ _ _) h2) (by omega) _ _
  · have l1 : lo ≤ 9223372036854775808 := l1
    have E : Hid ((if true = true then -lo else lo) = -lo) := rfl
    rw [E.out]
    clear E
    have F : Hid (wrap64 (-(wrap64 lo)) = -lo) := by show wrap64 (-(wrap64 lo)) = -lo; unfold wrap64; omega
    go_enter Try.func46, Try.ntmps46
    go_wp2_with fail
    refine (HA.out _).mono ?_
    rintro e w1 ⟨rfl, h1⟩
    obtain ⟨hc, hf⟩ := bcell h1
    have hs := h1.size
    simp at hs
    go_wp2_with fail
    refine (HB.out _).mono ?_
    rintro e w2 ⟨rfl, h2⟩
    have h2 := beyond h1 h2
    clear hc hf hs
    obtain ⟨hc, hf⟩ := bcell h2
    have hs := h2.size
    simp at hs
    go_wp2
    rw [← F.out]
    refine bodyPost_ret (v := .tuple #[rv (wrap64 (-(wrap64 lo))) dl, .int .i64 0]) (by simp [results, Try.results46, go_sem, hc]) rfl ⟨rfl, ?_⟩
    exact set2 (beyond (three w _ _ _) h2) (by omega) _ _

/-- Can the fraction with these lowest terms be held? -/
def canHold (N D : Int) (g : Bool) : Bool := decide (N ≤ mostOf g) && decide (D ≤ 9223372036854775807)
def heldN (N D : Int) (g : Bool) : Int := if canHold N D g then (if g then -N else N) else 0
def heldD (N D : Int) (g : Bool) : Int := if canHold N D g then D else 0
def heldE (N D : Int) (g : Bool) : Int := if canHold N D g then 0 else 20
theorem hold_any (N D : Int) (g : Bool) (w : World) (hN : U128 N) (hD : U128 D) :
    Calls Try.prog 46 #[sv N g, wv D] w fun e w' => e = .returned (.tuple #[rv (heldN N D g) (heldD N D g), .int .i64 (heldE N D g)]) ∧ Below w.heap.size w w' := by
  have hm : mostOf g ≤ 18446744073709551615 := by unfold mostOf; split <;> decide
  have A : Asks (hiW N) (loW N) (mostOf g) (decide (N ≤ mostOf g)) := fun w => atMostW_any N (mostOf g) w hN.1 hm
  have B : Asks (hiW D) (loW D) 9223372036854775807 (decide (D ≤ 9223372036854775807)) := fun w => atMostW_any D 9223372036854775807 w hD.1 (by decide)
  by_cases c1 : N ≤ mostOf g
  · rw [decide_eq_true c1] at A
    by_cases c2 : D ≤ 9223372036854775807
    · rw [decide_eq_true c2] at B
      have c : canHold N D g = true := by simp [canHold, c1, c2]
      have n1 := lo_small hN.1 (by omega : N ≤ 18446744073709551615)
      have d1 := lo_small hD.1 (by omega : D ≤ 18446744073709551615)
      have h := hold_ok (hiW N) (loW N) (hiW D) (loW D) g w A B (lo_bd N).1 (by rw [n1]; exact c1) (lo_bd D).1 (by rw [d1]; exact c2)
      have e1 : heldN N D g = if g then -(loW N) else loW N := by simp [heldN, c, n1]
      have e2 : heldD N D g = loW D := by simp [heldD, c, d1]
      have e3 : heldE N D g = 0 := by simp [heldE, c]
      rw [e1, e2, e3]
      exact h
    · rw [decide_eq_false c2] at B
      have c : canHold N D g = false := by simp [canHold, c2]
      have e1 : heldN N D g = 0 := by simp [heldN, c]
      have e2 : heldD N D g = 0 := by simp [heldD, c]
      have e3 : heldE N D g = 20 := by simp [heldE, c]
      rw [e1, e2, e3]
      exact hold_over2 _ _ _ _ g w A B
  · rw [decide_eq_false c1] at A
    have c : canHold N D g = false := by simp [canHold, c1]
    have e1 : heldN N D g = 0 := by simp [heldN, c]
    have e2 : heldD N D g = 0 := by simp [heldD, c]
    have e3 : heldE N D g = 20 := by simp [heldE, c]
    rw [e1, e2, e3]
    exact hold_over1 _ _ _ _ g w A

/-! ### Right -/
def rightR (n d : Int) : Bool := decide (0 < d) && (gcdI (sz n) (sz d) == 1)
set_option maxHeartbeats 1000000 in
theorem rightR_any (n d : Int) (w : World) (n0 : -9223372036854775808 ≤ n) (n1 : n ≤ 9223372036854775807) (d0 : -9223372036854775808 ≤ d) (d1 : d ≤ 9223372036854775807) :
    Calls Try.prog 7 #[rv n d] w fun e w' => e = .returned (.bool (rightR n d)) ∧ Below w.heap.size w w' := by
  have bn := sz_bd n n0 n1
  have bd := sz_bd d d0 d1
  have hn : U64 (sz n) := ⟨bn.1, by omega⟩
  have hd : U64 (sz d) := ⟨bd.1, by omega⟩
  have HN := hideR hn
  have HD := hideR hd
  by_cases c : 0 < d
  · have e : rightR n d = (gcdI (sz n) (sz d) == 1) := by simp [rightR, c]
    rw [e]
    clear e hn hd bn bd
    go_enter Try.func7, Try.ntmps7
    go_wp2
    go_quiet ((first | (go_at_call 23; exact Calls.quiet_of_same (size_any _ _ (by assumption) (by assumption))) | (go_at_call 22; exact Calls.quiet_of (gcd_draws _ _ _ HN.out HD.out))))
    go_wp2
    go_ret
    exact ⟨rfl, below_drewN (single _ _) _⟩
  · have e : rightR n d = false := by simp [rightR, c]
    rw [e]
    have c' : decide (0 < d) = false := by simpa using c
    clear e hn hd bn bd c
    go_enter Try.func7, Try.ntmps7
    go_wp2
    go_quiet (fail)
    go_wp2
    go_ret
    exact ⟨rfl, below_drewN (single _ _) _⟩
end Go.Proofs.Ytjanibholjimkaa
