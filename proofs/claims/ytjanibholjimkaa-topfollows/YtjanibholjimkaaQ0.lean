/-
  The contracts of the small functions of dbm: side, place, has, mayHave, plus, narrow, tighten.
-/
import Derived.Test.YtjanibholjimkaaChecked
import Derived.WalkKit
import Derived.WalkLawsBesides
import Derived.Deep.QuietTactic
import Derived.BigQuiet
import Derived.Below
import Derived.WalkSmall
import Derived.Deep.RegionHeld3
import Derived.Deep.DeepCutAuto
namespace Go.Proofs.Ytjanibholjimkaa
open Go.RowKit
set_option linter.unusedVariables false
set_option maxRecDepth 100000

theorem below_one (w : World) (a : Obj) : Below w.heap.size w (w.alloc a) := (Below.refl _ _).alloc (Nat.le_refl _) _
theorem hideD {p : Prop} (h : p) : Hid p := h
theorem kc {W w1 : World} (a : Addr) (v : Value) (hb : Below W.heap.size W w1) (h : W.cell? a = some v) : w1.cell? a = some v := (hb.cell (World.block_lt_of_cell? _ _ h)).trans h
theorem kf {W w1 : World} (a : Addr) (v : Value) (hb : Below W.heap.size W w1) (h : W.cell? a = some v) (g : W.frozen? a = false) : w1.frozen? a = false := (hb.frozen (World.block_lt_of_cell? _ _ h)).trans g
theorem beyondD {w w1 w2 : World} (h1 : Below w.heap.size w w1) (h2 : Below w1.heap.size w1 w2) : Below w.heap.size w w2 := h1.trans (h2.mono h1.size)
theorem rI {k : IntKind} {a b : Int} (h : a = b) : Ending.returned (.int k a) = .returned (.int k b) := by rw [h]

theorem side_any (n : Nat) (w : World) (h : n ≤ 8) :
    Calls Try.prog 57 #[.agg #[.int .i64 n]] w fun e w' => e = .returned (.int .i64 ((n + 1 : Nat) : Int)) ∧ Below w.heap.size w w' := by
  go_enter Try.func57, Try.ntmps57
  go_wp2
  go_ret
  exact ⟨rI (by first | omega | (unfold wrap64; omega)), below_one _ _⟩
theorem mayHave_any (n : Int) (w : World) :
    Calls Try.prog 17 #[.int .i64 n] w fun e w' => e = .returned (.bool (decide (0 ≤ n ∧ n ≤ 8))) ∧ w' = w := by
  by_cases h : 0 ≤ n
  · by_cases h1 : n ≤ 8
    · rw [decide_eq_true ⟨h, h1⟩]
      go_enter Try.func17, Try.ntmps17
      go_wp2
      all_goals go_ret
      all_goals first | exact ⟨rfl, rfl⟩ | (exfalso; omega) | (exfalso; simp_all; done) | (rename_i hh; exfalso; simp at hh; omega) | trace_state
    · rw [decide_eq_false (by omega)]
      go_enter Try.func17, Try.ntmps17
      go_wp2
      all_goals go_ret
      all_goals first | exact ⟨rfl, rfl⟩ | (exfalso; omega) | (exfalso; simp_all; done) | (rename_i hh; exfalso; simp at hh; omega) | trace_state
  · rw [decide_eq_false (by omega)]
    go_enter Try.func17, Try.ntmps17
    go_wp2
    all_goals go_ret
    all_goals first | exact ⟨rfl, rfl⟩ | (exfalso; omega) | (exfalso; simp_all; done) | (rename_i hh; exfalso; simp at hh; omega) | trace_state
/-- A row's cell of a draft. -/
abbrev at9 (b i j : Nat) : Addr := ⟨b, 1 + i * 9 + j, none⟩
theorem place_raw (n k s q r : Int) (w : World) (hs : ¬ s = 0) (q1 : IntKind.i64.wrap (k.tdiv s) = q) (q2 : k.tmod s = r) (HS : Hid (∀ w, Calls Try.prog 57 #[.agg #[.int .i64 n]] w fun e w' => e = .returned (.int .i64 s) ∧ Below w.heap.size w w')) :
    Calls Try.prog 41 #[.agg #[.int .i64 n], .int .i64 k] w fun e w' => e = .returned (.tuple #[.int .i64 q, .int .i64 r]) ∧ Below w.heap.size w w' := by
  go_enter Try.func41, Try.ntmps41
  go_wp2_with fail
  have c0 : (w.alloc (.cells #[.int .i64 n] 80)).cell? ⟨w.heap.size, 0, none⟩ = some (.int .i64 n) := by simp [go_sem]
  have B0 := below_one w (.cells #[.int .i64 n] 80)
  generalize w.alloc (.cells #[.int .i64 n] 80) = W at *
  go_region_held3 (fun w' => Below w.heap.size w w' ∧ w'.cell? ⟨w.heap.size, 0, none⟩ = some (.int .i64 n))
    (first | exact ⟨by first | assumption | (apply Below.drew; assumption), by first | assumption | simp [go_sem, *]⟩ | go_keep)
    (first | (go_at_call 57; refine (HS.out _).mono ?_; rintro e w' ⟨rfl, hb⟩; have s0 := kc ⟨w.heap.size, 0, none⟩ (.int .i64 n) hb (by first | assumption | simp [go_sem, *]); have s1 := beyondD (by first | assumption | (apply Below.drew; assumption)) hb))
  all_goals
    go_wp2
    refine bodyPost_ret (v := .tuple #[.int .i64 q, .int .i64 r]) (by simp [results, Try.results41, go_sem, *]) rfl ⟨rfl, ?_⟩
    assumption
theorem place_any (n k : Nat) (w : World) (h : n ≤ 8) (hk : k < 81) :
    Calls Try.prog 41 #[.agg #[.int .i64 n], .int .i64 k] w fun e w' => e = .returned (.tuple #[.int .i64 ((k / (n + 1) : Nat) : Int), .int .i64 ((k % (n + 1) : Nat) : Int)]) ∧ Below w.heap.size w w' := by
  refine place_raw n k ((n + 1 : Nat) : Int) _ _ w (by omega) ?_ ?_ (fun w => side_any n w h)
  · rw [Int.tdiv_eq_ediv_of_nonneg (by omega), ← Int.natCast_ediv]
    have := Nat.div_le_self k (n + 1)
    generalize k / (n + 1) = z at *
    rw [IntKind.wrap_i64]
    omega
  · rw [Int.tmod_eq_emod_of_nonneg (by omega), ← Int.natCast_emod]
def opn : Int := 4611686018427387904
def dplus (a b : Int) : Int := if a = opn ∨ b = opn then opn else wrap64 (wrap64 (a + b) - bits .and .i64 (bits .or .i64 a b) 1)
theorem dplus_any (a b : Int) (w : World) :
    Calls Try.prog 67 #[.int .i64 a, .int .i64 b] w fun e w' => e = .returned (.int .i64 (dplus a b)) ∧ w' = w := by
  by_cases h : a = opn
  · have e : dplus a b = opn := by simp [dplus, h]
    rw [e]
    clear e
    unfold opn at *
    go_enter Try.func67, Try.ntmps67
    go_wp2
    all_goals go_ret
    all_goals first | exact ⟨rfl, rfl⟩ | (exfalso; omega) | (exfalso; simp_all; done) | (rename_i hh; exfalso; simp at hh; omega) | trace_state
  · by_cases h1 : b = opn
    · have e : dplus a b = opn := by simp [dplus, h1]
      rw [e]
      clear e
      unfold opn at *
      go_enter Try.func67, Try.ntmps67
      go_wp2
      all_goals go_ret
      all_goals first | exact ⟨rfl, rfl⟩ | (exfalso; omega) | (exfalso; simp_all; done) | (rename_i hh; exfalso; simp at hh; omega) | trace_state
    · have e : dplus a b = wrap64 (wrap64 (a + b) - bits .and .i64 (bits .or .i64 a b) 1) := by simp [dplus, h, h1]
      rw [e]
      clear e
      unfold opn at *
      go_enter Try.func67, Try.ntmps67
      go_wp2
      all_goals go_ret
      all_goals first | exact ⟨rfl, rfl⟩ | (exfalso; omega) | (exfalso; simp_all; done) | (rename_i hh; exfalso; simp at hh; omega) | trace_state
def narB (x : Int) : Int := if x = opn then 2147483647 else if x < -536870912 ∨ 536870913 < x then 0 else x
def narOk (x : Int) : Bool := decide (x = opn) || !decide (x < -536870912 ∨ 536870913 < x)
theorem narrow_dbm (x : Int) (w : World) :
    Calls Try.prog 42 #[.int .i64 x] w fun e w' => e = .returned (.tuple #[.int .i32 (narB x), .bool (narOk x)]) ∧ w' = w := by
  by_cases h : x = opn
  · have e : narB x = 2147483647 := by simp [narB, h]
    have e1 : narOk x = true := by simp [narOk, h]
    rw [e, e1]
    clear e e1
    unfold opn at *
    go_enter Try.func42, Try.ntmps42
    go_wp2
    all_goals (refine bodyPost_ret (v := .tuple #[.int .i32 2147483647, .bool true]) (by simp [results, Try.results42, go_sem, *]) rfl ?_)
    all_goals first | exact ⟨rfl, rfl⟩ | (exfalso; omega) | (exfalso; simp_all; done) | (rename_i hh; exfalso; simp at hh; omega) | trace_state
  · by_cases h1 : x < -536870912 ∨ 536870913 < x
    · have e : narB x = 0 := by simp [narB, h, h1]
      have e1 : narOk x = false := by simp [narOk, h, h1]
      rw [e, e1]
      clear e e1
      unfold opn at *
      go_enter Try.func42, Try.ntmps42
      go_wp2
      all_goals (refine bodyPost_ret (v := .tuple #[.int .i32 0, .bool false]) (by simp [results, Try.results42, go_sem, *]) rfl ?_)
      all_goals first | exact ⟨rfl, rfl⟩ | (exfalso; omega) | (exfalso; simp_all; done) | (rename_i hh; exfalso; simp at hh; omega) | trace_state
    · have e : narB x = x := by simp [narB, h, h1]
      have e1 : narOk x = true := by simp [narOk, h, h1]
      rw [e, e1]
      clear e e1
      unfold opn at *
      go_enter Try.func42, Try.ntmps42
      go_wp2
      all_goals (refine bodyPost_ret (v := .tuple #[.int .i32 x, .bool true]) (by simp [results, Try.results42, go_sem, *]) rfl ?_)
      all_goals first | exact ⟨rfl, rfl⟩ | (exfalso; omega) | (exfalso; simp_all; done) | (rename_i hh; exfalso; simp at hh; omega) | trace_state
theorem tighten_inf (p : Addr) (i j : Int) (w : World) :
    Calls Try.prog 19 #[.pointer (some p), .int .i64 i, .int .i64 j, .int .i32 2147483647] w fun e w' => e = .returned (.tuple #[]) ∧ w' = w := by
  go_enter Try.func19, Try.ntmps19
  go_wp2
  go_end0
  exact ⟨rfl, rfl⟩
theorem tighten_fin (b i j : Nat) (x y : Int) (w : World) (i1 : i ≤ 8) (j1 : j ≤ 8) (hx : (x == 2147483647) = false) (x0 : -2147483648 ≤ x) (x1 : x ≤ 2147483647) (hc : w.cell? (at9 b i j) = some (.int .i64 y)) (hf : w.frozen? (at9 b i j) = false) :
    Calls Try.prog 19 #[.pointer (some ⟨b, 0, none⟩), .int .i64 i, .int .i64 j, .int .i32 x] w fun e w' => e = .returned (.tuple #[]) ∧ w' = (w.setCell (at9 b i j) (.int .i64 (min y x))).drew := by
  have ex : wrap64 x = x := by unfold wrap64; omega
  have EX := hideD ex
  clear ex
  go_enter Try.func19, Try.ntmps19
  go_wp2
  go_big_region
  all_goals go_wp2
  all_goals go_end0
  all_goals
    have ex := EX.out
    refine ⟨rfl, ?_⟩
    rw [show min y x = (if y ≤ x then y else x) from Int.min_def y x]
    first | (rw [if_pos (by omega)]; done) | (rw [if_pos (by omega), ex]; done) | (rw [if_neg (by omega)]; done) | (rw [if_neg (by omega), ex]; done)
end Go.Proofs.Ytjanibholjimkaa
