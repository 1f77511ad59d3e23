/-
  The contract of the division of a number of 128 bits by one of 64 (over), and of sign.
-/
import Derived.Test.YtnfkmpickmonoaaGreatQ39
import Derived.Test.YtnfkmpickmonoaaGreatQ38
import Derived.Lib.BitFns
import Derived.Laws.BitsLemmas
import Derived.Laws.Bits64b
import Derived.Deep.DeepCutAuto
namespace Go.Proofs.YtnfkmpickmonoaaGreat
open Go.RowKit Go.Shelf
set_option linter.unusedVariables false

/-! ### sign -/
theorem sign_zero (a b : Int) (g : Bool) (w : World) (HZ : Hid (∀ w, Calls Tryz.prog 154 #[.agg #[.int .u64 a, .int .u64 b]] w fun e w' => e = .returned (.bool true) ∧ Below w.heap.size w w')) :
    Calls Tryz.prog 147 #[.agg #[.int .u64 a, .int .u64 b, .bool g]] w fun e w' => e = .returned (.int .i64 0) ∧ Below w.heap.size w w' := by
  go_enter Tryz.func147, Tryz.ntmps147
  go_wp2_with fail
  refine (HZ.out _).mono ?_
  rintro e w1 ⟨rfl, hb⟩
  go_wp2
  go_ret
  exact ⟨rfl, beyond (single w _) hb⟩
theorem sign_some (a b : Int) (g : Bool) (w : World) (HZ : Hid (∀ w, Calls Tryz.prog 154 #[.agg #[.int .u64 a, .int .u64 b]] w fun e w' => e = .returned (.bool false) ∧ Below w.heap.size w w')) :
    Calls Tryz.prog 147 #[.agg #[.int .u64 a, .int .u64 b, .bool g]] w fun e w' => e = .returned (.int .i64 (if g then -1 else 1)) ∧ Below w.heap.size w w' := by
  cases g
  all_goals
    go_enter Tryz.func147, Tryz.ntmps147
    go_wp2_with fail
    refine (HZ.out _).mono ?_
    rintro e w1 ⟨rfl, hb⟩
    have s0 := kc ⟨w.heap.size, 2, none⟩ _ hb (by simp [go_sem]; rfl)
    have hB := beyond (single w _) hb
    clear hb
    go_wp2
    go_ret
    exact ⟨rfl, hB⟩
theorem sign_any (N : Int) (g : Bool) (w : World) (hN : U128 N) :
    Calls Tryz.prog 147 #[sv N g] w fun e w' => e = .returned (.int .i64 (if N = 0 then 0 else if g then -1 else 1)) ∧ Below w.heap.size w w' := by
  have Z := fun w => zero_any N w hN
  by_cases h : N = 0
  · rw [decide_eq_true h] at Z
    rw [if_pos h]
    exact sign_zero _ _ g w Z
  · rw [decide_eq_false h] at Z
    rw [if_neg h]
    exact sign_some _ _ g w Z
end Go.Proofs.YtnfkmpickmonoaaGreat

/-
  The contract of rat.sum: the sum of two fractions by their terms, in lowest terms, or that it cannot be held.
-/
namespace Go.Proofs.YtnfkmpickmonoaaGreat
open Go.RowKit Go.Shelf
set_option linter.unusedVariables false

theorem new_cell (X : World) (cs : Array Value) (T : TypeId) (i : Nat) : (X.alloc (.cells cs T)).cell? ⟨X.heap.size, i, none⟩ = cs[i]? := by simp [go_sem]
theorem new_frozen (X : World) (cs : Array Value) (T : TypeId) (i : Nat) : (X.alloc (.cells cs T)).frozen? ⟨X.heap.size, i, none⟩ = false := by simp [go_sem]
end Go.Proofs.YtnfkmpickmonoaaGreat

/-
  The contracts of the signed sum of two numbers of 128 bits, of rat.sum for right fractions, and the plain laws of what they tell.
-/
namespace Go.Proofs.YtnfkmpickmonoaaGreat
open Go.RowKit Go.Shelf
set_option linter.unusedVariables false

def sgn (N : Int) (g : Bool) : Int := if g then -N else N
def addM (M N : Int) (g h : Bool) : Int := if g = h then M + N else if M < N then N - M else M - N
def addG (M N : Int) (g h : Bool) : Bool := if g = h then g else if M < N then h else g
theorem add_sgn (M N : Int) (g h : Bool) : sgn (addM M N g h) (addG M N g h) = sgn M g + sgn N h := by
  unfold sgn addM addG
  cases g <;> cases h <;> simp <;> (try split) <;> (try simp) <;> omega
theorem addM_bd (M N : Int) (g h : Bool) (m0 : 0 ≤ M) (n0 : 0 ≤ N) : 0 ≤ addM M N g h ∧ addM M N g h ≤ M + N := by
  unfold addM
  split
  · omega
  · split <;> omega
theorem addS_any (M N : Int) (g h : Bool) (w : World) (hM : U128 M) (hN : U128 N) (hs : U128 (M + N)) :
    Calls Tryz.prog 145 #[sv M g, sv N h] w fun e w' => e = .returned (sv (addM M N g h) (addG M N g h)) ∧ Below w.heap.size w w' := by
  by_cases e : g = h
  · have e1 : addM M N g h = M + N := by simp [addM, e]
    have e2 : addG M N g h = g := by simp [addG, e]
    rw [e1, e2]
    exact add_same _ _ _ _ _ _ g h w (by simp [e]) (fun w => plus_any M N w hM hN hs)
  · have en : (g == h) = false := by simpa using e
    by_cases c : M < N
    · have e1 : addM M N g h = N - M := by simp [addM, e, c]
      have e2 : addG M N g h = h := by simp [addG, e, c]
      rw [e1, e2]
      refine add_less _ _ _ _ _ _ g h w en (fun w => ?_) (fun w => minus_any N M w hN hM (by omega))
      have := below_any M N w
      rw [decide_eq_true c] at this
      exact this
    · have e1 : addM M N g h = M - N := by simp [addM, e, c]
      have e2 : addG M N g h = g := by simp [addG, e, c]
      rw [e1, e2]
      refine add_more _ _ _ _ _ _ g h w en (fun w => ?_) (fun w => minus_any M N w hM hN (by omega))
      have := below_any M N w
      rw [decide_eq_false c] at this
      exact this

/-! ### sum -/
theorem prod_bd (a b A B : Int) (a0 : 0 ≤ a) (b0 : 0 ≤ b) (hA : a ≤ A) (hB : b ≤ B) : 0 ≤ a * b ∧ a * b ≤ A * B :=
  ⟨Int.mul_nonneg a0 b0, Int.mul_le_mul hA hB b0 (by omega)⟩
/-! ### What the sum tells -/
theorem sgn_mul (a b : Int) (g : Bool) : sgn (a * b) g = sgn a g * b := by
  unfold sgn
  split
  · rw [Int.neg_mul]
  · rfl
end Go.Proofs.YtnfkmpickmonoaaGreat

/-
  The contracts of rat.Add, Compare, Of.
-/
namespace Go.Proofs.YtnfkmpickmonoaaGreat
open Go.RowKit Go.Shelf
set_option linter.unusedVariables false
abbrev I64 (x : Int) : Prop := -9223372036854775808 ≤ x ∧ x ≤ 9223372036854775807
theorem whole_any (n : Int) (w : World) : Calls Tryz.prog 130 #[.int .i64 n] w fun e w' => e = .returned (rv n 1) ∧ Below w.heap.size w w' := by
  go_enter Tryz.func130, Tryz.ntmps130
  go_wp2
  refine bodyPost_ret (v := rv n 1) (by simp [results, Tryz.results130, go_sem]) rfl ⟨rfl, ?_⟩
  first | exact single _ _ | exact set2 (single _ _) (Nat.le_refl _) _ _
theorem ratOf_raw (n : Int) (w : World) (H : Hid (∀ w, Calls Tryz.prog 130 #[.int .i64 n] w fun e w' => e = .returned (rv n 1) ∧ Below w.heap.size w w')) : Calls Tryz.prog 101 #[.int .i64 n] w fun e w' => e = .returned (rv n 1) ∧ Below w.heap.size w w' := by
  go_enter Tryz.func101, Tryz.ntmps101
  go_wp2_with fail
  refine (H.out _).mono ?_
  rintro e w1 ⟨rfl, hb⟩
  have s0 := kc ⟨w.heap.size, 0, none⟩ (.int .i64 0) hb (by simp [go_sem])
  have s1 := kc ⟨w.heap.size, 1, none⟩ (.int .i64 0) hb (by simp [go_sem])
  have s2 := kf ⟨w.heap.size, 0, none⟩ (.int .i64 0) hb (by simp [go_sem]) (by simp [go_sem])
  have s3 := kf ⟨w.heap.size, 1, none⟩ (.int .i64 0) hb (by simp [go_sem]) (by simp [go_sem])
  have hB := beyond (single w _) hb
  clear hb
  go_wp2_with fail
  refine bodyPost_ret (v := rv n 1) (by simp [results, Tryz.results101, go_sem, *]) rfl ⟨rfl, ?_⟩
  exact set2 hB (Nat.le_refl _) _ _
theorem ratOf_any (n : Int) (w : World) : Calls Tryz.prog 101 #[.int .i64 n] w fun e w' => e = .returned (rv n 1) ∧ Below w.heap.size w w' := ratOf_raw n w (fun w => whole_any n w)
abbrev AskR (n d : Int) (r : Bool) : Prop := ∀ w, Calls Tryz.prog 129 #[rv n d] w fun e w' => e = .returned (.bool r) ∧ Below w.heap.size w w'
end Go.Proofs.YtnfkmpickmonoaaGreat
