/-
  The contracts of the small functions of dbm: side, place, has, mayHave, plus, narrow, tighten.
-/
import Derived.Test.YtohkbjkfpnhggaaChecked
import Derived.WalkKit
import Derived.WalkLawsBesides
import Derived.Deep.QuietTactic
import Derived.BigQuiet
import Derived.Below
import Derived.WalkSmall
import Derived.Deep.RegionHeld3
import Derived.Deep.DeepCutAuto
namespace Go.Proofs.Ytohkbjkfpnhggaa
open Go.RowKit
set_option linter.unusedVariables false
set_option maxRecDepth 100000

theorem below_one (w : World) (a : Obj) : Below w.heap.size w (w.alloc a) := (Below.refl _ _).alloc (Nat.le_refl _) _
theorem hideD {p : Prop} (h : p) : Hid p := h
theorem below_draw (w : World) (k : Nat) : Below w.heap.size w (w.drewN k) := below_drewN (Below.refl _ _) k
theorem kc {W w1 : World} (a : Addr) (v : Value) (hb : Below W.heap.size W w1) (h : W.cell? a = some v) : w1.cell? a = some v := (hb.cell (World.block_lt_of_cell? _ _ h)).trans h
theorem kf {W w1 : World} (a : Addr) (v : Value) (hb : Below W.heap.size W w1) (h : W.cell? a = some v) (g : W.frozen? a = false) : w1.frozen? a = false := (hb.frozen (World.block_lt_of_cell? _ _ h)).trans g
theorem beyondD {w w1 w2 : World} (h1 : Below w.heap.size w w1) (h2 : Below w1.heap.size w1 w2) : Below w.heap.size w w2 := h1.trans (h2.mono h1.size)
theorem rI {k : IntKind} {a b : Int} (h : a = b) : Ending.returned (.int k a) = .returned (.int k b) := by rw [h]

theorem side_any (n : Nat) (w : World) (h : n ≤ 8) :
    Calls Try.prog 54 #[.agg #[.int .i64 n]] w fun e w' => e = .returned (.int .i64 ((n + 1 : Nat) : Int)) ∧ Below w.heap.size w w' := by
  go_enter Try.func54, Try.ntmps54
  go_wp2
  go_ret
  exact ⟨rI (by first | omega | (unfold wrap64; omega)), below_one _ _⟩
theorem mayHave_any (n : Int) (w : World) :
    Calls Try.prog 12 #[.int .i64 n] w fun e w' => e = .returned (.bool (decide (0 ≤ n ∧ n ≤ 8))) ∧ w' = w := by
  by_cases h : 0 ≤ n
  · by_cases h1 : n ≤ 8
    · rw [decide_eq_true ⟨h, h1⟩]
      go_enter Try.func12, Try.ntmps12
      go_wp2
      all_goals go_ret
      all_goals first | exact ⟨rfl, rfl⟩ | (exfalso; omega) | (exfalso; simp_all; done) | (rename_i hh; exfalso; simp at hh; omega) | trace_state
    · rw [decide_eq_false (by omega)]
      go_enter Try.func12, Try.ntmps12
      go_wp2
      all_goals go_ret
      all_goals first | exact ⟨rfl, rfl⟩ | (exfalso; omega) | (exfalso; simp_all; done) | (rename_i hh; exfalso; simp at hh; omega) | trace_state
  · rw [decide_eq_false (by omega)]
    go_enter Try.func12, Try.ntmps12
    go_wp2
    all_goals go_ret
    all_goals first | exact ⟨rfl, rfl⟩ | (exfalso; omega) | (exfalso; simp_all; done) | (rename_i hh; exfalso; simp at hh; omega) | trace_state
/-- A row's cell of a draft. -/
abbrev at9 (b i j : Nat) : Addr := ⟨b, 1 + i * 9 + j, none⟩
theorem place_raw (n k s q r : Int) (w : World) (hs : ¬ s = 0) (q1 : IntKind.i64.wrap (k.tdiv s) = q) (q2 : k.tmod s = r) (HS : Hid (∀ w, Calls Try.prog 54 #[.agg #[.int .i64 n]] w fun e w' => e = .returned (.int .i64 s) ∧ Below w.heap.size w w')) :
    Calls Try.prog 34 #[.agg #[.int .i64 n], .int .i64 k] w fun e w' => e = .returned (.tuple #[.int .i64 q, .int .i64 r]) ∧ Below w.heap.size w w' := by
  go_enter Try.func34, Try.ntmps34
  go_wp2_with fail
  have c0 : (w.alloc (.cells #[.int .i64 n] 46)).cell? ⟨w.heap.size, 0, none⟩ = some (.int .i64 n) := by simp [go_sem]
  have B0 := below_one w (.cells #[.int .i64 n] 46)
  generalize w.alloc (.cells #[.int .i64 n] 46) = W at *
  go_region_held3 (fun w' => Below w.heap.size w w' ∧ w'.cell? ⟨w.heap.size, 0, none⟩ = some (.int .i64 n))
    (first | exact ⟨by first | assumption | (apply Below.drew; assumption), by first | assumption | simp [go_sem, *]⟩ | go_keep)
    (first | (go_at_call 54; refine (HS.out _).mono ?_; rintro e w' ⟨rfl, hb⟩; have s0 := kc ⟨w.heap.size, 0, none⟩ (.int .i64 n) hb (by first | assumption | simp [go_sem, *]); have s1 := beyondD (by first | assumption | (apply Below.drew; assumption)) hb))
  all_goals
    go_wp2
    refine bodyPost_ret (v := .tuple #[.int .i64 q, .int .i64 r]) (by simp [results, Try.results34, go_sem, *]) rfl ⟨rfl, ?_⟩
    assumption
theorem place_any (n k : Nat) (w : World) (h : n ≤ 8) (hk : k < 81) :
    Calls Try.prog 34 #[.agg #[.int .i64 n], .int .i64 k] w fun e w' => e = .returned (.tuple #[.int .i64 ((k / (n + 1) : Nat) : Int), .int .i64 ((k % (n + 1) : Nat) : Int)]) ∧ Below w.heap.size w w' := by
  refine place_raw n k ((n + 1 : Nat) : Int) _ _ w (by omega) ?_ ?_ (fun w => side_any n w h)
  · rw [Int.tdiv_eq_ediv_of_nonneg (by omega), ← Int.natCast_ediv]
    have := Nat.div_le_self k (n + 1)
    generalize k / (n + 1) = z at *
    rw [IntKind.wrap_i64]
    omega
  · rw [Int.tmod_eq_emod_of_nonneg (by omega), ← Int.natCast_emod]
def opn : Int := 4611686018427387904
def dplus (a b : Int) : Int := if a = opn ∨ b = opn then opn else wrap64 (wrap64 (a + b) - bits .and .i64 (bits .or .i64 a b) 1)
theorem dplus_any (a b : Int) (w : World) :
    Calls Try.prog 68 #[.int .i64 a, .int .i64 b] w fun e w' => e = .returned (.int .i64 (dplus a b)) ∧ w' = w := by
  by_cases h : a = opn
  · have e : dplus a b = opn := by simp [dplus, h]
    rw [e]
    clear e
    unfold opn at *
    go_enter Try.func68, Try.ntmps68
    go_wp2
    all_goals go_ret
    all_goals first | exact ⟨rfl, rfl⟩ | (exfalso; omega) | (exfalso; simp_all; done) | (rename_i hh; exfalso; simp at hh; omega) | trace_state
  · by_cases h1 : b = opn
    · have e : dplus a b = opn := by simp [dplus, h1]
      rw [e]
      clear e
      unfold opn at *
      go_enter Try.func68, Try.ntmps68
      go_wp2
      all_goals go_ret
      all_goals first | exact ⟨rfl, rfl⟩ | (exfalso; omega) | (exfalso; simp_all; done) | (rename_i hh; exfalso; simp at hh; omega) | trace_state
    · have e : dplus a b = wrap64 (wrap64 (a + b) - bits .and .i64 (bits .or .i64 a b) 1) := by simp [dplus, h, h1]
      rw [e]
      clear e
      unfold opn at *
      go_enter Try.func68, Try.ntmps68
      go_wp2
      all_goals go_ret
      all_goals first | exact ⟨rfl, rfl⟩ | (exfalso; omega) | (exfalso; simp_all; done) | (rename_i hh; exfalso; simp at hh; omega) | trace_state
def narB (x : Int) : Int := if x = opn then 2147483647 else if x < -536870912 ∨ 536870913 < x then 0 else x
def narOk (x : Int) : Bool := decide (x = opn) || !decide (x < -536870912 ∨ 536870913 < x)
theorem narrow_dbm (x : Int) (w : World) :
    Calls Try.prog 35 #[.int .i64 x] w fun e w' => e = .returned (.tuple #[.int .i32 (narB x), .bool (narOk x)]) ∧ w' = w := by
  by_cases h : x = opn
  · have e : narB x = 2147483647 := by simp [narB, h]
    have e1 : narOk x = true := by simp [narOk, h]
    rw [e, e1]
    clear e e1
    unfold opn at *
    go_enter Try.func35, Try.ntmps35
    go_wp2
    all_goals (refine bodyPost_ret (v := .tuple #[.int .i32 2147483647, .bool true]) (by simp [results, Try.results35, go_sem, *]) rfl ?_)
    all_goals first | exact ⟨rfl, rfl⟩ | (exfalso; omega) | (exfalso; simp_all; done) | (rename_i hh; exfalso; simp at hh; omega) | trace_state
  · by_cases h1 : x < -536870912 ∨ 536870913 < x
    · have e : narB x = 0 := by simp [narB, h, h1]
      have e1 : narOk x = false := by simp [narOk, h, h1]
      rw [e, e1]
      clear e e1
      unfold opn at *
      go_enter Try.func35, Try.ntmps35
      go_wp2
      all_goals (refine bodyPost_ret (v := .tuple #[.int .i32 0, .bool false]) (by simp [results, Try.results35, go_sem, *]) rfl ?_)
      all_goals first | exact ⟨rfl, rfl⟩ | (exfalso; omega) | (exfalso; simp_all; done) | (rename_i hh; exfalso; simp at hh; omega) | trace_state
    · have e : narB x = x := by simp [narB, h, h1]
      have e1 : narOk x = true := by simp [narOk, h, h1]
      rw [e, e1]
      clear e e1
      unfold opn at *
      go_enter Try.func35, Try.ntmps35
      go_wp2
      all_goals (refine bodyPost_ret (v := .tuple #[.int .i32 x, .bool true]) (by simp [results, Try.results35, go_sem, *]) rfl ?_)
      all_goals first | exact ⟨rfl, rfl⟩ | (exfalso; omega) | (exfalso; simp_all; done) | (rename_i hh; exfalso; simp at hh; omega) | trace_state
theorem tighten_inf (p : Addr) (i j : Int) (w : World) :
    Calls Try.prog 16 #[.pointer (some p), .int .i64 i, .int .i64 j, .int .i32 2147483647] w fun e w' => e = .returned (.tuple #[]) ∧ w' = w := by
  go_enter Try.func16, Try.ntmps16
  go_wp2
  go_end0
  exact ⟨rfl, rfl⟩
theorem tighten_fin (b i j : Nat) (x y : Int) (w : World) (i1 : i ≤ 8) (j1 : j ≤ 8) (hx : (x == 2147483647) = false) (x0 : -2147483648 ≤ x) (x1 : x ≤ 2147483647) (hc : w.cell? (at9 b i j) = some (.int .i64 y)) (hf : w.frozen? (at9 b i j) = false) :
    Calls Try.prog 16 #[.pointer (some ⟨b, 0, none⟩), .int .i64 i, .int .i64 j, .int .i32 x] w fun e w' => e = .returned (.tuple #[]) ∧ w' = (w.setCell (at9 b i j) (.int .i64 (min y x))).drew := by
  have ex : wrap64 x = x := by unfold wrap64; omega
  have EX := hideD ex
  clear ex
  go_enter Try.func16, Try.ntmps16
  go_wp2
  go_big_region
  all_goals go_wp2
  all_goals go_end0
  all_goals
    have ex := EX.out
    refine ⟨rfl, ?_⟩
    rw [show min y x = (if y ≤ x then y else x) from Int.min_def y x]
    all_goals first | (rw [if_pos (by omega)]; done) | (rw [if_pos (by omega), ex]; done) | (rw [if_neg (by omega)]; done) | (rw [if_neg (by omega), ex]; done)
end Go.Proofs.Ytohkbjkfpnhggaa

/-
  A draft in memory, and the contract of draftOf.
-/
namespace Go.Proofs.Ytohkbjkfpnhggaa
open Go.RowKit
set_option linter.unusedVariables false
abbrev Mat := Nat → Nat → Int
def upd (r : Mat) (i j : Nat) (v : Int) : Mat := fun a c => if a = i ∧ c = j then v else r a c
/-- In block b there lies a draft of n clocks with these rows. -/
structure Draft (w : World) (b n : Nat) (r : Mat) : Prop where
  clocks : w.cell? ⟨b, 0, none⟩ = some (.int .i64 n)
  cell : ∀ i j, i ≤ 8 → j ≤ 8 → w.cell? (at9 b i j) = some (.int .i64 (r i j))
  free : ∀ i j, i ≤ 8 → j ≤ 8 → w.frozen? (at9 b i j) = false
theorem Draft.set {w : World} {b n : Nat} {r : Mat} (h : Draft w b n r) {i j : Nat} (hi : i ≤ 8) (hj : j ≤ 8) (v : Int) : Draft (w.setCell (at9 b i j) (.int .i64 v)) b n (upd r i j v) := by
  refine ⟨?_, ?_, ?_⟩
  · rw [World.cell?_setCell_other _ _ _ _ (by intro e; injection e; omega)]
    exact h.clocks
  · intro a c ha hc
    by_cases e : a = i ∧ c = j
    · obtain ⟨rfl, rfl⟩ := e
      rw [World.cell?_setCell_same _ _ _ (h.cell a c ha hc)]
      simp [upd]
    · rw [World.cell?_setCell_other _ _ _ _ (by intro e; injection e; omega), h.cell a c ha hc]
      simp [upd, e]
  · intro a c ha hc
    rw [World.frozen?_setCell]
    exact h.free a c ha hc
theorem Draft.drew {w : World} {b n : Nat} {r : Mat} (h : Draft w b n r) : Draft w.drew b n r := ⟨h.clocks, h.cell, h.free⟩
theorem Draft.drewN {w : World} {b n : Nat} {r : Mat} (h : Draft w b n r) (k : Nat) : Draft (w.drewN k) b n r := ⟨h.clocks, h.cell, h.free⟩
theorem Draft.lt {w : World} {b n : Nat} {r : Mat} (h : Draft w b n r) : b < w.heap.size := World.block_lt_of_cell? _ _ h.clocks
theorem Draft.later {w w' : World} {b n : Nat} {r : Mat} (h : Draft w b n r) {B : Nat} (hb : Below B w w') (hB : b < B) : Draft w' b n r :=
  ⟨(hb.cell hB).trans h.clocks, fun i j hi hj => (hb.cell (p := at9 b i j) hB).trans (h.cell i j hi hj), fun i j hi hj => (hb.frozen (p := at9 b i j) hB).trans (h.free i j hi hj)⟩
theorem Draft.ext {w : World} {b n : Nat} {r s : Mat} (h : Draft w b n r) (e : ∀ i j, i ≤ 8 → j ≤ 8 → r i j = s i j) : Draft w b n s :=
  ⟨h.clocks, fun i j hi hj => by rw [h.cell i j hi hj, e i j hi hj], h.free⟩

def z82 : Array Value := Array.replicate 82 (.int .i64 0)
theorem zero82 (w : World) : Sem.run Try.prog (zeroValue 50) w = .ok (.agg z82) w := by kernel_rfl
theorem z82_ne : (z82 = #[]) = False := by simp [z82]
theorem new_draft (w : World) (n : Nat) (T : TypeId) : Draft (w.alloc (.cells (z82.setIfInBounds 0 (.int .i64 n)) T)) w.heap.size n (fun _ _ => 0) := by
  refine ⟨?_, ?_, ?_⟩
  · simp [go_sem, z82]
  · intro i j hi hj
    rw [World.cell?_alloc_at _ _ _ _ rfl, Array.getElem?_setIfInBounds_ne (by omega)]
    rw [z82, Array.getElem?_replicate, if_pos (by omega)]
  · intro i j hi hj
    simp [go_sem]
/-- The rows of all valuations, in the part that is laid: the rows ahead of I, and of row I the places ahead of J. -/
def startV (i j : Nat) : Int := if i ≠ 0 ∧ i ≠ j then 4611686018427387904 else 1
def startR (n I J : Nat) : Mat := fun a c => if (a < I ∧ c ≤ n) ∨ (a = I ∧ c < J) then startV a c else 0
theorem startR_next (n I J : Nat) : upd (startR n I J) I J (startV I J) = startR n I (J + 1) := by
  funext a c
  unfold upd startR
  by_cases e : a = I ∧ c = J
  · obtain ⟨rfl, rfl⟩ := e
    simp
  · rw [if_neg e]
    congr 1
    apply propext
    omega
theorem startR_row (n I : Nat) : startR n I (n + 1) = startR n (I + 1) 0 := by
  funext a c
  unfold startR
  congr 1
  apply propext
  omega
set_option maxHeartbeats 1000000 in
theorem draftOf_any (n : Nat) (w : World) (h : n ≤ 8) :
    Calls Try.prog 13 #[.int .i64 n] w fun e w' => e = .returned (.pointer (some ⟨w.heap.size, 0, none⟩)) ∧ Draft w' w.heap.size n (startR n (n + 1) 0) ∧ Below w.heap.size w w' := by
  have Z := fun w => zero82 w
  have Zn := z82_ne
  have D0 := hideD (new_draft w n 50)
  go_enter Try.func13, Try.ntmps13
  go_wp2_with fail
  have B0 := below_one w (.cells (z82.setIfInBounds 0 (.int .i64 n)) 50)
  generalize w.alloc (.cells (z82.setIfInBounds 0 (.int .i64 n)) 50) = W at *
  have e0 : (fun _ _ => (0 : Int)) = startR n 0 0 := by funext a c; simp [startR]
  rw [e0] at D0
  clear Z Zn e0
  go_loopw [4] (fun s wr => ∃ I : Nat, I ≤ n + 1 ∧ s = .int .i64 I ∧ Hid (Draft wr w.heap.size n (startR n I 0)) ∧ Hid (Below w.heap.size w wr)) (fun s _ => n + 1 - (intOf s).toNat)
  case atStart => exact ⟨0, by omega, rfl, D0, B0⟩
  case round =>
    obtain ⟨I, hI, rfl, hD, hB⟩ := hrel
    by_cases c : I ≤ n
    · go_wp2_with fail
      go_loopw [5] (fun s wr => ∃ J : Nat, J ≤ n + 1 ∧ s = .int .i64 J ∧ Hid (Draft wr w.heap.size n (startR n I J)) ∧ Hid (Below w.heap.size w wr)) (fun s _ => n + 1 - (intOf s).toNat)
      case atStart => exact ⟨0, by omega, rfl, hD, hB⟩
      case round =>
        obtain ⟨J, hJ, rfl, hD, hB⟩ := hrel
        by_cases cj : J ≤ n
        · have hc := hD.out.cell I J (by omega) (by omega)
          have hf := hD.out.free I J (by omega) (by omega)
          have nx := startR_next n I J
          by_cases e : I ≠ 0 ∧ I ≠ J
          · have ev : startV I J = 4611686018427387904 := by simp [startV, e]
            have t1 : ((I : Int) != 0) = true := by simp; omega
            have t2 : ((I : Int) != (J : Int)) = true := by simp; omega
            go_wp2_with fail
            go_roundw
            case rel => exact ⟨J + 1, by omega, by go_num, (by rw [← nx, ev]; exact hD.out.set (by omega) (by omega) _ : Draft _ _ _ _), hB.out.setCell (Nat.le_refl _) _⟩
            case measure => simp [intOf]; omega
          · have ev : startV I J = 1 := by simp [startV]; omega
            by_cases e1 : I = 0
            · subst e1
              have hc : wr.cell? ⟨w.heap.size, 1 + J, none⟩ = some (.int .i64 (startR n 0 J 0 J)) := by have := hc; simpa using this
              have hf : wr.frozen? ⟨w.heap.size, 1 + J, none⟩ = false := by have := hf; simpa using this
              go_wp2_with fail
              go_roundw
              case rel =>
                refine ⟨J + 1, by omega, by go_num, ?_, hB.out.setCell (Nat.le_refl _) _⟩
                have := hD.out.set (i := 0) (j := J) (by omega) (by omega) 1
                rw [← nx, ev]
                exact hideD (by simpa [at9] using this)
              case measure => simp [intOf]; omega
            · have t1 : ((I : Int) != 0) = true := by simp; omega
              obtain rfl : I = J := by omega
              go_wp2_with fail
              go_roundw
              case rel => exact ⟨I + 1, by omega, by go_num, (by rw [← nx, ev]; exact hD.out.set (by omega) (by omega) _ : Draft _ _ _ _), hB.out.setCell (Nat.le_refl _) _⟩
              case measure => simp [intOf]; omega
        · have ej : J = n + 1 := by omega
          subst ej
          rw [startR_row] at hD
          go_wp2_with fail
          go_roundw
          case rel => exact ⟨I + 1, by omega, by go_num, hD, hB⟩
          case measure => simp [intOf]; omega
    · have eI : I = n + 1 := by omega
      subst eI
      go_wp2_with fail
      go_ret
      exact ⟨rfl, hD.out, hB.out⟩
end Go.Proofs.Ytohkbjkfpnhggaa

/-
  The contract of closeBy and close.
-/
namespace Go.Proofs.Ytohkbjkfpnhggaa
open Go.RowKit
set_option linter.unusedVariables false
def cbStep (k i j : Nat) (r : Mat) : Option Mat :=
  if r i j ≤ dplus (r i k) (r k j) then some r else if i = j then none else some (upd r i j (dplus (r i k) (r k j)))
def cbRow (k i : Nat) : Nat → Mat → Option Mat
  | 0, r => some r
  | c + 1, r => (cbRow k i c r).bind (cbStep k i c)
def cbAll (k n : Nat) : Nat → Mat → Option Mat
  | 0, r => some r
  | c + 1, r => (cbAll k n c r).bind (cbRow k c (n + 1))
theorem cbRow_none {k i : Nat} {r : Mat} : ∀ {c : Nat} (d : Nat), c ≤ d → cbRow k i c r = none → cbRow k i d r = none := by
  intro c d h e
  induction d with
  | zero => obtain rfl : c = 0 := by omega
            exact e
  | succ d ih =>
    by_cases q : c = d + 1
    · subst q; exact e
    · simp [cbRow, ih (by omega)]
theorem cbAll_none {k n : Nat} {r : Mat} : ∀ {c : Nat} (d : Nat), c ≤ d → cbAll k n c r = none → cbAll k n d r = none := by
  intro c d h e
  induction d with
  | zero => obtain rfl : c = 0 := by omega
            exact e
  | succ d ih =>
    by_cases q : c = d + 1
    · subst q; exact e
    · simp [cbAll, ih (by omega)]
set_option maxHeartbeats 1000000 in
theorem closeBy_any (b n k : Nat) (r : Mat) (w : World) (h : n ≤ 8) (hk : k ≤ n) (hD : Draft w b n r) :
    Calls Try.prog 53 #[.pointer (some ⟨b, 0, none⟩), .int .i64 k] w fun e w' => e = .returned (.bool (cbAll k n (n + 1) r).isSome) ∧ Below b w w' ∧ (∃ s, Draft w' b n s ∧ ∀ s', cbAll k n (n + 1) r = some s' → s' = s) := by
  have HD := hideD hD
  clear hD
  go_enter Try.func53, Try.ntmps53
  go_wp2_with fail
  go_loopw [5] (fun s wr => ∃ (I : Nat) (q : Mat), I ≤ n + 1 ∧ s = .int .i64 I ∧ Hid (cbAll k n I r = some q) ∧ Hid (Draft wr b n q) ∧ Hid (Below b w wr)) (fun s _ => n + 1 - (intOf s).toNat)
  case atStart => exact ⟨0, r, by omega, rfl, rfl, HD, Below.refl _ _⟩
  case round =>
    obtain ⟨I, q, hI, rfl, hq, hD, hB⟩ := hrel
    have hcl := hD.out.clocks
    by_cases c : I ≤ n
    · go_wp2_with fail
      clear hcl
      go_loopw [6] (fun s wr => ∃ (J : Nat) (p : Mat), J ≤ n + 1 ∧ s = .int .i64 J ∧ Hid (cbRow k I J q = some p) ∧ Hid (Draft wr b n p) ∧ Hid (Below b w wr)) (fun s _ => n + 1 - (intOf s).toNat)
      case atStart => exact ⟨0, q, by omega, rfl, rfl, hD, hB⟩
      case round =>
        obtain ⟨J, p, hJ, rfl, hp, hD, hB⟩ := hrel
        have hcl := hD.out.clocks
        by_cases cj : J ≤ n
        · have h1 := hD.out.cell I k (by omega) (by omega)
          have h2 := hD.out.cell k J (by omega) (by omega)
          have h3 := hD.out.cell I J (by omega) (by omega)
          have h4 := hD.out.free I J (by omega) (by omega)
          have st : Hid (cbRow k I (J + 1) q = cbStep k I J p) := by show cbRow k I (J + 1) q = _; simp [cbRow, hp.out]
          generalize e1 : p I k = x at *
          generalize e2 : p k J = y at *
          generalize e3 : p I J = z at *
          have st2 : Hid (cbStep k I J p = if z ≤ dplus x y then some p else if I = J then none else some (upd p I J (dplus x y))) := by show cbStep k I J p = _; simp [cbStep, e1, e2, e3]
          have HP : Hid (∀ w, Calls Try.prog 68 #[.int .i64 x, .int .i64 y] w fun e w' => e = .returned (.int .i64 (dplus x y)) ∧ w' = w) := fun w => dplus_any x y w
          generalize dplus x y = s at *
          clear e1 e2 e3
          by_cases cz : z ≤ s
          · have st3 : Hid (cbRow k I (J + 1) q = some p) := by show cbRow k I (J + 1) q = _; rw [st.out, st2.out, if_pos cz]
            clear st st2
            go_wp2_with fail
            go_quiet ((go_at_call 68; exact Calls.quiet_of_same (HP.out _)))
            go_wp2_with fail
            go_roundw
            case rel => exact ⟨J + 1, p, by omega, by go_num, st3, hD.out.drewN _, below_drewN hB.out _⟩
            case measure => simp [intOf]; omega
          · by_cases ce : I = J
            · have st3 : Hid (cbAll k n (n + 1) r = none) := by
                show cbAll k n (n + 1) r = none
                refine cbAll_none (c := I + 1) (n + 1) (by omega) ?_
                simp [cbAll, hq.out]
                refine cbRow_none (c := J + 1) (n + 1) (by omega) ?_
                rw [st.out, st2.out, if_neg cz, if_pos ce]
              clear st st2
              subst ce
              go_wp2_with fail
              go_quiet ((go_at_call 68; exact Calls.quiet_of_same (HP.out _)))
              go_wp2_with fail
              go_ret
              refine ⟨?_, below_drewN hB.out _, p, hD.out.drewN _, fun s' e => ?_⟩
              · simp [st3.out]
              · rw [st3.out] at e; simp at e
            · have st3 : Hid (cbRow k I (J + 1) q = some (upd p I J s)) := by show cbRow k I (J + 1) q = _; rw [st.out, st2.out, if_neg cz, if_neg ce]
              clear st st2
              have t1 : ((I : Int) == (J : Int)) = false := by simp; omega
              go_wp2_with fail
              go_quiet ((go_at_call 68; exact Calls.quiet_of_same (HP.out _)))
              go_wp2_with fail
              go_roundw
              case rel => exact ⟨J + 1, upd p I J s, by omega, by go_num, st3, (hD.out.drewN _).set (by omega) (by omega) _, (below_drewN hB.out _).setCell (Nat.le_refl _) _⟩
              case measure => simp [intOf]; omega
        · have ej : J = n + 1 := by omega
          subst ej
          have st : Hid (cbAll k n (I + 1) r = some p) := by show cbAll k n (I + 1) r = _; simp [cbAll, hq.out, hp.out]
          go_wp2_with fail
          go_roundw
          case rel => exact ⟨I + 1, p, by omega, by go_num, st, hD, hB⟩
          case measure => simp [intOf]; omega
    · have eI : I = n + 1 := by omega
      subst eI
      go_wp2_with fail
      go_ret
      refine ⟨?_, hB.out, q, hD.out, fun s' e => ?_⟩
      · simp [hq.out]
      · rw [hq.out] at e; injection e with e; exact e.symm

/-! ### close -/
def diagOk (n : Nat) (r : Mat) : Nat → Bool
  | 0 => true
  | c + 1 => diagOk n r c && decide (1 ≤ r c c)
def clAll (n : Nat) : Nat → Mat → Option Mat
  | 0, r => some r
  | c + 1, r => (clAll n c r).bind (cbAll c n (n + 1))
def closeR (n : Nat) (r : Mat) : Option Mat := if diagOk n r (n + 1) then clAll n (n + 1) r else none
theorem clAll_none {n : Nat} {r : Mat} : ∀ {c : Nat} (d : Nat), c ≤ d → clAll n c r = none → clAll n d r = none := by
  intro c d h e
  induction d with
  | zero => obtain rfl : c = 0 := by omega
            exact e
  | succ d ih =>
    by_cases q : c = d + 1
    · subst q; exact e
    · simp [clAll, ih (by omega)]
theorem diagOk_false {n : Nat} {r : Mat} : ∀ {c : Nat} (d : Nat), c ≤ d → diagOk n r c = false → diagOk n r d = false := by
  intro c d h e
  induction d with
  | zero => obtain rfl : c = 0 := by omega
            exact e
  | succ d ih =>
    by_cases q : c = d + 1
    · subst q; exact e
    · simp [diagOk, ih (by omega)]
set_option maxHeartbeats 1000000 in
theorem close_any (b n : Nat) (r : Mat) (w : World) (h : n ≤ 8) (hD : Draft w b n r) :
    Calls Try.prog 31 #[.pointer (some ⟨b, 0, none⟩)] w fun e w' => e = .returned (.bool (closeR n r).isSome) ∧ Below b w w' ∧ (∃ s, Draft w' b n s ∧ ∀ s', closeR n r = some s' → s' = s) := by
  have HD := hideD hD
  clear hD
  go_enter Try.func31, Try.ntmps31
  go_wp2_with fail
  go_loopw [3] (fun s wr => ∃ (I : Nat), I ≤ n + 1 ∧ s = .int .i64 I ∧ Hid (diagOk n r I = true) ∧ Hid (Draft wr b n r) ∧ Hid (Below b w wr)) (fun s _ => n + 1 - (intOf s).toNat)
  case atStart => exact ⟨0, by omega, rfl, rfl, HD, Below.refl _ _⟩
  case round =>
    obtain ⟨I, hI, rfl, hq, hD, hB⟩ := hrel
    have hcl := hD.out.clocks
    by_cases c : I ≤ n
    · have h1 := hD.out.cell I I (by omega) (by omega)
      have st : Hid (diagOk n r (I + 1) = decide (1 ≤ r I I)) := by show diagOk n r (I + 1) = _; simp [diagOk, hq.out]
      generalize r I I = x at *
      by_cases cx : x < 1
      · have st3 : Hid (closeR n r = none) := by
          show closeR n r = none
          have e : diagOk n r (n + 1) = false := by
            refine diagOk_false (c := I + 1) (n + 1) (by omega) ?_
            rw [st.out, decide_eq_false (by omega)]
          simp [closeR, e]
        clear st
        go_wp2_with fail
        go_ret
        refine ⟨?_, hB.out, r, hD.out, fun s' e => ?_⟩
        · simp [st3.out]
        · rw [st3.out] at e; simp at e
      · have st3 : Hid (diagOk n r (I + 1) = true) := by show diagOk n r (I + 1) = true; rw [st.out, decide_eq_true (by omega)]
        clear st
        go_wp2_with fail
        go_roundw
        case rel => exact ⟨I + 1, by omega, by go_num, st3, hD, hB⟩
        case measure => simp [intOf]; omega
    · have st : Hid (closeR n r = clAll n (n + 1) r) := by
        obtain rfl : I = n + 1 := by omega
        show closeR n r = _
        simp [closeR, hq.out]
      clear hq
      go_wp2_with fail
      clear hcl
      go_loopw [4] (fun s wr => ∃ (K : Nat) (q : Mat), K ≤ n + 1 ∧ s = .int .i64 K ∧ Hid (clAll n K r = some q) ∧ Hid (Draft wr b n q) ∧ Hid (Below b w wr)) (fun s _ => n + 1 - (intOf s).toNat)
      case atStart => exact ⟨0, r, by omega, rfl, rfl, hD, hB⟩
      case round =>
        obtain ⟨K, q, hK, rfl, hq, hD, hB⟩ := hrel
        have hcl := hD.out.clocks
        by_cases c : K ≤ n
        · have H := hideD (closeBy_any b n K q wr h c hD.out)
          have st2 : Hid (clAll n (K + 1) r = cbAll K n (n + 1) q) := by show clAll n (K + 1) r = _; simp [clAll, hq.out]
          cases e : cbAll K n (n + 1) q with
          | none =>
            rw [e] at H
            have st3 : Hid (closeR n r = none) := by
              show closeR n r = none
              rw [st.out]
              exact clAll_none (c := K + 1) (n + 1) (by omega) (st2.out.trans e)
            clear st st2
            go_wp2_with fail
            refine H.out.mono ?_
            rintro e' w1 ⟨rfl, hb, s, hs, -⟩
            go_wp2_with fail
            go_ret
            refine ⟨?_, hB.out.trans hb, s, hs, fun s' e => ?_⟩
            · simp [st3.out]
            · rw [st3.out] at e; simp at e
          | some p =>
            rw [e] at H
            have st3 : Hid (clAll n (K + 1) r = some p) := st2.out.trans e
            clear st2
            go_wp2_with fail
            refine H.out.mono ?_
            rintro e' w1 ⟨rfl, hb, s, hs, hp⟩
            obtain rfl := hp p rfl
            have hs' := hideD hs
            have hb' := hideD (hB.out.trans hb)
            clear hs hb hp
            go_wp2_with fail
            go_roundw
            case rel => exact ⟨K + 1, p, by omega, by go_num, st3, hs', hb'⟩
            case measure => simp [intOf]; omega
        · have eK : K = n + 1 := by omega
          subst eK
          have st3 : Hid (closeR n r = some q) := st.out.trans hq.out
          clear st hq
          go_wp2_with fail
          go_ret
          refine ⟨?_, hB.out, q, hD.out, fun s' e => ?_⟩
          · simp [st3.out]
          · rw [st3.out] at e; injection e with e; exact e.symm
end Go.Proofs.Ytohkbjkfpnhggaa

/-
  A zone in memory; the contracts of none, used, at, hollow, zone.
-/
namespace Go.Proofs.Ytohkbjkfpnhggaa
open Go.RowKit
set_option linter.unusedVariables false
abbrev Row := Nat → Int
/-- In block b there lies a zone of n clocks with these cells (the places behind the used ones hold 0). -/
structure ZoneAt (w : World) (b n : Nat) (c : Row) : Prop where
  clocks : w.cell? ⟨b, 0, none⟩ = some (.int .i64 n)
  cell : ∀ k, k < 81 → w.cell? ⟨b, 1 + k, none⟩ = some (.int .i32 (c k))
  free : ∀ k, k < 81 → w.frozen? ⟨b, 1 + k, none⟩ = false
def updR (c : Row) (k : Nat) (v : Int) : Row := fun a => if a = k then v else c a
theorem ZoneAt.set {w : World} {b n : Nat} {c : Row} (h : ZoneAt w b n c) {k : Nat} (hk : k < 81) (v : Int) : ZoneAt (w.setCell ⟨b, 1 + k, none⟩ (.int .i32 v)) b n (updR c k v) := by
  refine ⟨?_, ?_, ?_⟩
  · rw [World.cell?_setCell_other _ _ _ _ (by intro e; injection e; omega)]
    exact h.clocks
  · intro a ha
    by_cases e : a = k
    · subst e
      rw [World.cell?_setCell_same _ _ _ (h.cell a ha)]
      simp [updR]
    · rw [World.cell?_setCell_other _ _ _ _ (by intro e; injection e; omega), h.cell a ha]
      simp [updR, e]
  · intro a ha
    rw [World.frozen?_setCell]
    exact h.free a ha
theorem ZoneAt.drewN {w : World} {b n : Nat} {c : Row} (h : ZoneAt w b n c) (k : Nat) : ZoneAt (w.drewN k) b n c := ⟨h.clocks, h.cell, h.free⟩
theorem ZoneAt.drew {w : World} {b n : Nat} {c : Row} (h : ZoneAt w b n c) : ZoneAt w.drew b n c := ⟨h.clocks, h.cell, h.free⟩
theorem ZoneAt.lt {w : World} {b n : Nat} {c : Row} (h : ZoneAt w b n c) : b < w.heap.size := World.block_lt_of_cell? _ _ h.clocks
theorem ZoneAt.later {w w' : World} {b n : Nat} {c : Row} (h : ZoneAt w b n c) {B : Nat} (hb : Below B w w') (hB : b < B) : ZoneAt w' b n c :=
  ⟨(hb.cell hB).trans h.clocks, fun k hk => (hb.cell (p := ⟨b, 1 + k, none⟩) hB).trans (h.cell k hk), fun k hk => (hb.frozen (p := ⟨b, 1 + k, none⟩) hB).trans (h.free k hk)⟩
theorem ZoneAt.past {w w' : World} {b n : Nat} {c : Row} (h : ZoneAt w b n c) (hb : Below w.heap.size w w') : ZoneAt w' b n c := h.later hb h.lt

def y82 : Array Value := #[.int .i64 0] ++ Array.replicate 81 (.int .i32 0)
theorem zeroM (w : World) : Sem.run Try.prog (zeroValue 66) w = .ok (.agg y82) w := by kernel_rfl
theorem zeroZ (w : World) : Sem.run Try.prog (zeroValue 68) w = .ok (.agg y82) w := by kernel_rfl
theorem y82_ne : (y82 = #[]) = False := by simp [y82]
theorem y82_size : y82.size = 82 := by simp [y82]
theorem new_zone (w : World) (n : Nat) (T : TypeId) : ZoneAt (w.alloc (.cells (y82.setIfInBounds 0 (.int .i64 n)) T)) w.heap.size n (fun _ => 0) := by
  refine ⟨?_, ?_, ?_⟩
  · rw [World.cell?_alloc_at _ _ _ _ rfl]
    simp [y82]
  · intro k hk
    rw [World.cell?_alloc_at _ _ _ _ rfl, Array.getElem?_setIfInBounds_ne (by omega)]
    rw [y82, Array.getElem?_append_right (by simp), Array.getElem?_replicate]
    simp
    omega
  · intro k hk
    rw [World.frozen?_alloc_at _ _ _ _ rfl]
theorem build82 (v : Value) : Array.foldl (fun cs x => cs.setIfInBounds x.snd x.fst) y82 (y82.setIfInBounds 0 v).zipIdx 0 82 = y82.setIfInBounds 0 v := by kernel_rfl
theorem none_any (n : Nat) (w : World) :
    Calls Try.prog 32 #[.int .i64 n] w fun e w' => e = .returned (.pointer (some ⟨w.heap.size, 0, none⟩)) ∧ ZoneAt w' w.heap.size n (fun _ => 0) ∧ Below w.heap.size w w' ∧ w'.heap.size = w.heap.size + 1 := by
  have Z1 := fun w => zeroM w
  have Z2 := fun w => zeroZ w
  have Zn := y82_ne
  have Zs := y82_size
  go_enter Try.func32, Try.ntmps32
  go_wp2
  go_ret
  rw [build82]
  exact ⟨rfl, new_zone w n _, below_one _ _, by simp⟩
end Go.Proofs.Ytohkbjkfpnhggaa

/-
  The contracts of used, at, hollow, nowhereLess, zone.
-/
namespace Go.Proofs.Ytohkbjkfpnhggaa
open Go.RowKit
set_option linter.unusedVariables false
set_option maxRecDepth 100000
theorem used_raw (b : Nat) (n s : Int) (q : Nat) (w : World) (hc : w.cell? ⟨b, 0, none⟩ = some (.int .i64 n)) (e : IntKind.i64.wrap (s * s) = (q : Int)) (q1 : q ≤ 81)
    (HS : Hid (∀ w, Calls Try.prog 54 #[.agg #[.int .i64 n]] w fun e w' => e = .returned (.int .i64 s) ∧ Below w.heap.size w w')) :
    Calls Try.prog 33 #[.pointer (some ⟨b, 0, none⟩)] w fun e w' => e = .returned (.slice (some ⟨b, 1, none⟩) q 81) ∧ Below w.heap.size w w' := by
  have AL : Try.prog.arrayLen 64 = 81 := by kernel_rfl
  have q2 : (0 : Int) ≤ (q : Int) := by omega
  have q3 : (q : Int) ≤ 81 := by omega
  go_enter Try.func33, Try.ntmps33
  go_wp2_with fail
  go_region_held3 (fun w' => Below w.heap.size w w' ∧ w'.cell? ⟨b, 0, none⟩ = some (.int .i64 n))
    (first | exact ⟨by first | assumption | exact Below.refl _ _ | exact Below.drew (Below.refl _ _), by first | assumption | simp [go_sem, *]⟩ | go_keep)
    (first | (go_at_call 54; refine (HS.out _).mono ?_; rintro e' w' ⟨rfl, hb⟩; have s0 := kc ⟨b, 0, none⟩ (.int .i64 n) hb (by first | assumption | simp [go_sem, *]); have s1 := beyondD (w := w) (by first | assumption | exact Below.refl _ _ | exact Below.drew (Below.refl _ _)) hb))
  all_goals
    go_wp2
    go_ret
    exact ⟨rfl, by assumption⟩
theorem used_any (b n : Nat) (w : World) (h : n ≤ 8) (hc : w.cell? ⟨b, 0, none⟩ = some (.int .i64 n)) :
    Calls Try.prog 33 #[.pointer (some ⟨b, 0, none⟩)] w fun e w' => e = .returned (.slice (some ⟨b, 1, none⟩) ((n + 1) * (n + 1)) 81) ∧ Below w.heap.size w w' := by
  have q : (n + 1) * (n + 1) ≤ 81 := Nat.mul_le_mul (show n + 1 ≤ 9 by omega) (show n + 1 ≤ 9 by omega)
  refine used_raw b n ((n + 1 : Nat) : Int) _ w hc ?_ q (fun w => side_any n w h)
  rw [← Int.natCast_mul]
  generalize (n + 1) * (n + 1) = z at *
  rw [IntKind.wrap_i64]
  omega
theorem at_raw (b k : Nat) (n s i j v : Int) (w : World) (hc : w.cell? ⟨b, 0, none⟩ = some (.int .i64 n)) (hv : w.cell? ⟨b, 1 + k, none⟩ = some (.int .i32 v)) (hk : k < 81)
    (e : IntKind.i64.wrap (IntKind.i64.wrap (i * s) + j) = (k : Int))
    (HS : Hid (∀ w, Calls Try.prog 54 #[.agg #[.int .i64 n]] w fun e w' => e = .returned (.int .i64 s) ∧ Below w.heap.size w w')) :
    Calls Try.prog 43 #[.pointer (some ⟨b, 0, none⟩), .int .i64 i, .int .i64 j] w fun e w' => e = .returned (.int .i32 v) ∧ Below w.heap.size w w' := by
  have k0 : (0 : Int) ≤ (k : Int) := by omega
  have k1 : (k : Int) < 81 := by omega
  go_enter Try.func43, Try.ntmps43
  go_wp2_with fail
  go_region_held3 (fun w' => Below w.heap.size w w' ∧ w'.cell? ⟨b, 0, none⟩ = some (.int .i64 n) ∧ w'.cell? ⟨b, 1 + k, none⟩ = some (.int .i32 v))
    (first | exact ⟨by first | assumption | exact Below.refl _ _ | exact Below.drew (Below.refl _ _), by first | assumption | simp [go_sem, *], by first | assumption | simp [go_sem, *]⟩ | go_keep)
    (first | (go_at_call 54; refine (HS.out _).mono ?_; rintro e' w' ⟨rfl, hb⟩; have s0 := kc ⟨b, 0, none⟩ (.int .i64 n) hb (by first | assumption | simp [go_sem, *]); have s2 := kc ⟨b, 1 + k, none⟩ (.int .i32 v) hb (by first | assumption | simp [go_sem, *]); have s1 := beyondD (w := w) (by first | assumption | exact Below.refl _ _ | exact Below.drew (Below.refl _ _)) hb))
  all_goals
    go_wp2
    go_ret
    exact ⟨rfl, by assumption⟩
theorem at_any (b n i j : Nat) (c : Row) (w : World) (h : n ≤ 8) (hi : i ≤ n) (hj : j ≤ n) (hz : ZoneAt w b n c) :
    Calls Try.prog 43 #[.pointer (some ⟨b, 0, none⟩), .int .i64 i, .int .i64 j] w fun e w' => e = .returned (.int .i32 (c (i * (n + 1) + j))) ∧ Below w.heap.size w w' := by
  have hk : i * (n + 1) + j < 81 := by
    have : i * (n + 1) ≤ 8 * 9 := Nat.mul_le_mul (by omega) (by omega)
    omega
  refine at_raw b (i * (n + 1) + j) n ((n + 1 : Nat) : Int) i j _ w hz.clocks (hz.cell _ hk) hk ?_ (fun w => side_any n w h)
  rw [← Int.natCast_mul]
  generalize i * (n + 1) = z at *
  rw [IntKind.wrap_i64, IntKind.wrap_i64]
  omega
theorem hollow_raw (b : Nat) (v : Int) (w : World) (H : Hid (∀ w', Below w.heap.size w w' → Calls Try.prog 43 #[.pointer (some ⟨b, 0, none⟩), .int .i64 0, .int .i64 0] w' fun e w'' => e = .returned (.int .i32 v) ∧ Below w'.heap.size w' w'')) :
    Calls Try.prog 23 #[.pointer (some ⟨b, 0, none⟩)] w fun e w' => e = .returned (.bool (decide (v < 1))) ∧ Below w.heap.size w w' := by
  go_enter Try.func23, Try.ntmps23
  go_wp2_with fail
  refine (H.out _ (Below.refl _ _)).mono ?_
  rintro e w' ⟨rfl, hb⟩
  go_wp2
  go_ret
  exact ⟨rfl, hb⟩
theorem hollow_any (b n : Nat) (c : Row) (w : World) (h : n ≤ 8) (hz : ZoneAt w b n c) :
    Calls Try.prog 23 #[.pointer (some ⟨b, 0, none⟩)] w fun e w' => e = .returned (.bool (decide (c 0 < 1))) ∧ Below w.heap.size w w' := by
  refine hollow_raw b (c 0) w fun w' hb => ?_
  have := at_any b n 0 0 c w' h (by omega) (by omega) (hz.past hb)
  simpa using this
/-! ### nowhereLess -/
def nless (c d : Row) : Nat → Bool
  | 0 => true
  | k + 1 => nless c d k && decide (d k ≤ c k)
theorem nless_false {c d : Row} : ∀ {k : Nat} (m : Nat), k ≤ m → nless c d k = false → nless c d m = false := by
  intro k m h e
  induction m with
  | zero => obtain rfl : k = 0 := by omega
            exact e
  | succ m ih =>
    by_cases q : k = m + 1
    · subst q; exact e
    · simp [nless, ih (by omega)]
set_option maxHeartbeats 1000000 in
theorem nless_any (b o n : Nat) (c d : Row) (w : World) (h : n ≤ 8) (hz : ZoneAt w b n c) (hy : ZoneAt w o n d) :
    Calls Try.prog 30 #[.pointer (some ⟨b, 0, none⟩), .pointer (some ⟨o, 0, none⟩)] w fun e w' => e = .returned (.bool (nless c d ((n + 1) * (n + 1)))) ∧ Below w.heap.size w w' := by
  have HU := hideD (used_any b n w h hz.clocks)
  have hm : (n + 1) * (n + 1) ≤ 81 := Nat.mul_le_mul (show n + 1 ≤ 9 by omega) (show n + 1 ≤ 9 by omega)
  generalize (n + 1) * (n + 1) = m at *
  have hm1 : (m : Int) ≤ 81 := by omega
  have HZ := hideD hz
  have HY := hideD hy
  clear hz hy
  go_enter Try.func30, Try.ntmps30
  go_wp2_with fail
  refine HU.out.mono ?_
  rintro e w1 ⟨rfl, hb⟩
  have hZ := hideD (HZ.out.past hb)
  have hY := hideD (HY.out.past hb)
  have hB := hideD hb
  clear HZ HY hb HU
  go_wp2_with fail
  go_loopw [10] (fun s wr => ∃ (I : Nat), I ≤ m ∧ s = .int .i64 I ∧ Hid (nless c d I = true) ∧ Hid (ZoneAt wr b n c) ∧ Hid (ZoneAt wr o n d) ∧ Hid (Below w.heap.size w wr)) (fun s _ => m - (intOf s).toNat)
  case atStart => exact ⟨0, by omega, rfl, rfl, hZ, hY, hB⟩
  case round =>
    obtain ⟨I, hI, rfl, hq, hZ, hY, hB⟩ := hrel
    by_cases ci : I < m
    · have h1 := hZ.out.cell I (by omega)
      have h2 := hY.out.cell I (by omega)
      have st : Hid (nless c d (I + 1) = decide (d I ≤ c I)) := by show nless c d (I + 1) = _; simp [nless, hq.out]
      have i0 : (0 : Int) ≤ (I : Int) := by omega
      have i1 : (I : Int) < 81 := by omega
      generalize c I = x at *
      generalize d I = y at *
      by_cases cx : x < y
      · have st3 : Hid (nless c d m = false) := by
          show nless c d m = false
          refine nless_false (k := I + 1) m (by omega) ?_
          rw [st.out, decide_eq_false (by omega)]
        clear st hq
        go_wp2_with fail
        go_ret
        exact ⟨by rw [st3.out]; rfl, hB.out⟩
      · have st3 : Hid (nless c d (I + 1) = true) := by show nless c d (I + 1) = true; rw [st.out, decide_eq_true (by omega)]
        clear st hq
        go_wp2_with fail
        go_roundw
        case rel => exact ⟨I + 1, by omega, by go_num, st3, hZ, hY, hB⟩
        case measure => simp [intOf]; omega
    · have st : Hid (nless c d m = true) := by
        obtain rfl : I = m := by omega
        exact hq.out
      clear hq
      go_wp2_with fail
      go_ret
      exact ⟨by rw [st.out]; rfl, hB.out⟩

/-! ### zone -/
/-- The cells of a closed draft, row by row. -/
def flat (n : Nat) (r : Mat) : Row := fun k => r (k / (n + 1)) (k % (n + 1))
def cellsUpto (n : Nat) (r : Mat) (m : Nat) : Row := fun k => if k < m then narB (flat n r k) else 0
def narAll (n : Nat) (r : Mat) : Nat → Bool
  | 0 => true
  | k + 1 => narAll n r k && narOk (flat n r k)
theorem narAll_false {n : Nat} {r : Mat} : ∀ {k : Nat} (m : Nat), k ≤ m → narAll n r k = false → narAll n r m = false := by
  intro k m h e
  induction m with
  | zero => obtain rfl : k = 0 := by omega
            exact e
  | succ m ih =>
    by_cases q : k = m + 1
    · subst q; exact e
    · simp [narAll, ih (by omega)]
/-- What becomes of a draft: none: nothing (ErrBound); some cells: a zone. -/
def zoneR (n : Nat) (r : Mat) : Option Row :=
  match closeR n r with
  | none => some (fun _ => 0)
  | some p => if narAll n p ((n + 1) * (n + 1)) then some (cellsUpto n p ((n + 1) * (n + 1))) else none
theorem cells_next (n : Nat) (r : Mat) (m : Nat) : updR (cellsUpto n r m) m (narB (flat n r m)) = cellsUpto n r (m + 1) := by
  funext a
  unfold updR cellsUpto
  by_cases e : a = m
  · subst e; simp
  · rw [if_neg e]
    congr 1
    apply propext
    omega
abbrev zoneRes (b : Nat) : Option Row → Value
  | some _ => .tuple #[.pointer (some ⟨b, 0, none⟩), .int .i64 0]
  | none => .tuple #[.pointer none, .int .i64 10]
theorem zone_none (b n : Nat) (r : Mat) (w : World) (h : n ≤ 8) (hD : Draft w b n r) (e : closeR n r = none) :
    Calls Try.prog 17 #[.pointer (some ⟨b, 0, none⟩)] w fun e w' => ∃ b', w.heap.size ≤ b' ∧ e = .returned (.tuple #[.pointer (some ⟨b', 0, none⟩), .int .i64 0]) ∧ ZoneAt w' b' n (fun _ => 0) ∧ Below b w w' := by
  have HC := hideD (close_any b n r w h hD)
  rw [e] at HC
  go_enter Try.func17, Try.ntmps17
  go_wp2_with fail
  refine HC.out.mono ?_
  rintro e' w1 ⟨rfl, hb, s, hs, -⟩
  have hcl := hs.clocks
  go_wp2_with fail
  refine (none_any n _).mono ?_
  rintro e' w2 ⟨rfl, hz, hb2, hs2⟩
  go_wp2_with fail
  refine bodyPost_ret (v := .tuple #[.pointer (some ⟨w1.heap.size, 0, none⟩), .int .i64 0]) (by simp [results, Try.results17, go_sem]) rfl ⟨w1.heap.size, hb.size, rfl, hz, hb.trans (hb2.mono (Nat.le_of_lt hs.lt))⟩
end Go.Proofs.Ytohkbjkfpnhggaa

/-
  The contract of zone: what becomes of a draft.
-/
namespace Go.Proofs.Ytohkbjkfpnhggaa
open Go.RowKit
set_option linter.unusedVariables false
set_option maxRecDepth 100000
set_option maxHeartbeats 1000000 in
theorem zone_some (b n : Nat) (r p : Mat) (w : World) (h : n ≤ 8) (hD : Draft w b n r) (e : closeR n r = some p) :
    Calls Try.prog 17 #[.pointer (some ⟨b, 0, none⟩)] w fun e w' => Below b w w' ∧
      ((narAll n p ((n + 1) * (n + 1)) = false ∧ e = .returned (.tuple #[.pointer none, .int .i64 10])) ∨
       (narAll n p ((n + 1) * (n + 1)) = true ∧ ∃ b', w.heap.size ≤ b' ∧ e = .returned (.tuple #[.pointer (some ⟨b', 0, none⟩), .int .i64 0]) ∧ ZoneAt w' b' n (cellsUpto n p ((n + 1) * (n + 1))))) := by
  have HC := hideD (close_any b n r w h hD)
  rw [e] at HC
  have hm : (n + 1) * (n + 1) ≤ 81 := Nat.mul_le_mul (show n + 1 ≤ 9 by omega) (show n + 1 ≤ 9 by omega)
  have HU : Hid (∀ bz w, w.cell? ⟨bz, 0, none⟩ = some (.int .i64 n) → Calls Try.prog 33 #[.pointer (some ⟨bz, 0, none⟩)] w fun e w' => e = .returned (.slice (some ⟨bz, 1, none⟩) ((n + 1) * (n + 1)) 81) ∧ Below w.heap.size w w') := fun bz w hz => used_any bz n w h hz
  have HQ : Hid (∀ k, k < (n + 1) * (n + 1) → k / (n + 1) ≤ n ∧ k % (n + 1) ≤ n) := fun k hk => ⟨by have := Nat.div_lt_of_lt_mul hk; omega, by have := Nat.mod_lt k (show 0 < n + 1 by omega); omega⟩
  generalize (n + 1) * (n + 1) = m at *
  have hm1 : (m : Int) ≤ 81 := by omega
  go_enter Try.func17, Try.ntmps17
  go_wp2_with fail
  refine HC.out.mono ?_
  rintro e' w1 ⟨rfl, hb, s, hs, hp⟩
  obtain rfl := hp p rfl
  have hcl := hs.clocks
  have hB1 := hideD hb
  have hD1 := hideD hs
  clear hb hs hp HC hD
  go_wp2_with fail
  refine (none_any n _).mono ?_
  rintro e' w2 ⟨rfl, hz, hb2, hs2⟩
  have hB2 := hideD (hB1.out.trans (hb2.mono (Nat.le_of_lt hD1.out.lt)))
  have hD2 := hideD (hD1.out.later hb2 hD1.out.lt)
  have hl := hideD hD1.out.lt
  have hsz := hideD hB1.out.size
  generalize w1.heap.size = bz at *
  have hZ := hideD hz
  have hcz := hz.clocks
  clear hz hb2 hB1 hD1 hs2
  go_wp2_with fail
  refine (HU.out _ _ hcz).mono ?_
  rintro e' w3 ⟨rfl, hb⟩
  have hZ3 := hideD (hZ.out.past hb)
  have hD3 := hideD (hD2.out.later hb hD2.out.lt)
  have hB3 := hideD (hB2.out.trans (hb.mono (Nat.le_of_lt hD2.out.lt)))
  clear hb hZ hD2 hB2 hcz
  go_wp2_with fail
  go_loopw [30] (fun s wr => ∃ (K : Nat), K ≤ m ∧ s = .int .i64 K ∧ Hid (narAll n p K = true) ∧ Hid (ZoneAt wr bz n (cellsUpto n p K)) ∧ Hid (Draft wr b n p) ∧ Hid (Below b w wr)) (fun s _ => m - (intOf s).toNat)
  case atStart => exact ⟨0, by omega, rfl, rfl, hZ3, hD3, hB3⟩
  case round =>
    obtain ⟨K, hK, rfl, hq, hZ, hD, hB⟩ := hrel
    clear hZ3 hD3 hB3
    by_cases ck : K < m
    · have HP : Hid (∀ w, Calls Try.prog 34 #[.agg #[.int .i64 n], .int .i64 K] w fun e w' => e = .returned (.tuple #[.int .i64 ((K / (n + 1) : Nat) : Int), .int .i64 ((K % (n + 1) : Nat) : Int)]) ∧ Below w.heap.size w w') := fun w => place_any n K w h (by omega)
      obtain ⟨i1, j1⟩ := HQ.out K ck
      have st : Hid (narAll n p (K + 1) = narOk (p (K / (n + 1)) (K % (n + 1)))) := by show narAll n p (K + 1) = _; simp [narAll, hq.out, flat]
      have nx := hideD (cells_next n p K)
      have nx : Hid (updR (cellsUpto n p K) K (narB (p (K / (n + 1)) (K % (n + 1)))) = cellsUpto n p (K + 1)) := nx
      generalize K / (n + 1) = i at *
      generalize K % (n + 1) = j at *
      have hcz := hZ.out.clocks
      have k0 : (0 : Int) ≤ (K : Int) := by omega
      have k1 : (K : Int) < 81 := by omega
      go_wp2_with fail
      refine (HP.out _).mono ?_
      rintro e' w4 ⟨rfl, hb⟩
      have hZ4 := hideD (hZ.out.past hb)
      have hD4 := hideD (hD.out.later hb hD.out.lt)
      have hB4 := hideD (hB.out.trans (hb.mono (Nat.le_of_lt hD.out.lt)))
      have h1 := hD4.out.cell i j (by omega) (by omega)
      have h2 := hZ4.out.cell K (by omega)
      have h3 := hZ4.out.free K (by omega)
      clear hb hZ hD hB hcz
      have HN : Hid (∀ w, Calls Try.prog 35 #[.int .i64 (p i j)] w fun e w' => e = .returned (.tuple #[.int .i32 (narB (p i j)), .bool (narOk (p i j))]) ∧ w' = w) := fun w => narrow_dbm _ w
      generalize p i j = x at *
      generalize narB x = y at *
      cases eo : narOk x with
      | false =>
        rw [eo] at HN st
        have st3 : Hid (narAll n p m = false) := narAll_false (k := K + 1) m (by omega) st.out
        go_wp2_with fail
        refine (HN.out _).mono ?_
        rintro e' w5 ⟨rfl, rfl⟩
        go_wp2_with fail
        refine bodyPost_ret (v := .tuple #[.pointer none, .int .i64 10]) (by simp [results, Try.results17, go_sem]) rfl ⟨hB4.out, .inl ⟨st3.out, rfl⟩⟩
      | true =>
        rw [eo] at HN st
        go_wp2_with fail
        refine (HN.out _).mono ?_
        rintro e' w5 ⟨rfl, rfl⟩
        go_wp2_with fail
        go_roundw
        case rel => exact ⟨K + 1, by omega, by go_num, st, by rw [← nx.out]; exact hZ4.out.set (by omega) _, hD4.out.later ((Below.refl bz _).setCell (Nat.le_refl _) _) hl.out, hB4.out.setCell (Nat.le_of_lt hl.out) _⟩
        case measure => simp [intOf]; omega
    · have st : Hid (K = m) := by show K = m; omega
      have hq' : Hid (narAll n p m = true) := by have e := st.out; subst e; exact hq
      have hZ' : Hid (ZoneAt wr bz n (cellsUpto n p m)) := by have e := st.out; subst e; exact hZ
      go_wp2_with fail
      refine bodyPost_ret (v := .tuple #[.pointer (some ⟨bz, 0, none⟩), .int .i64 0]) (by simp [results, Try.results17, go_sem]) rfl ⟨hB.out, .inr ⟨hq'.out, bz, hsz.out, rfl, hZ'.out⟩⟩
/-- What becomes of a draft. -/
def ZoneOut (w' : World) (B n : Nat) (e : Ending) : Option Row → Prop
  | none => e = .returned (.tuple #[.pointer none, .int .i64 10])
  | some c => ∃ b', B ≤ b' ∧ e = .returned (.tuple #[.pointer (some ⟨b', 0, none⟩), .int .i64 0]) ∧ ZoneAt w' b' n c
theorem zone_any (b n : Nat) (r : Mat) (w : World) (h : n ≤ 8) (hD : Draft w b n r) :
    Calls Try.prog 17 #[.pointer (some ⟨b, 0, none⟩)] w fun e w' => ZoneOut w' w.heap.size n e (zoneR n r) ∧ Below b w w' := by
  cases e : closeR n r with
  | none =>
    refine (zone_none b n r w h hD e).mono ?_
    rintro e' w' ⟨b', hb, rfl, hz, hB⟩
    have ez : zoneR n r = some (fun _ => 0) := by simp [zoneR, e]
    rw [ez]
    exact ⟨⟨b', hb, rfl, hz⟩, hB⟩
  | some p =>
    refine (zone_some b n r p w h hD e).mono ?_
    rintro e' w' ⟨hB, ⟨hn, rfl⟩ | ⟨hn, b', hb, rfl, hz⟩⟩
    · have ez : zoneR n r = none := by simp [zoneR, e, hn]
      rw [ez]
      exact ⟨rfl, hB⟩
    · have ez : zoneR n r = some (cellsUpto n p ((n + 1) * (n + 1))) := by simp [zoneR, e, hn]
      rw [ez]
      exact ⟨⟨b', hb, rfl, hz⟩, hB⟩
end Go.Proofs.Ytohkbjkfpnhggaa
