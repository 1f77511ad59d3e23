/-
  The contracts of the small functions of dbm: side, place, has, mayHave, plus, narrow, tighten.
-/
import Derived.Test.YtnfkmpickmonoaaGreatChecked
import Derived.WalkKit
import Derived.WalkLawsBesides
import Derived.Deep.QuietTactic
import Derived.BigQuiet
import Derived.Below
import Derived.WalkSmall
import Derived.Deep.RegionHeld3
import Derived.Deep.DeepCutAuto
namespace Go.Proofs.YtnfkmpickmonoaaGreat
open Go.RowKit
set_option linter.unusedVariables false
set_option maxRecDepth 100000

theorem below_one (w : World) (a : Obj) : Below w.heap.size w (w.alloc a) := (Below.refl _ _).alloc (Nat.le_refl _) _
theorem hideD {p : Prop} (h : p) : Hid p := h
theorem below_draw (w : World) (k : Nat) : Below w.heap.size w (w.drewN k) := below_drewN (Below.refl _ _) k
theorem kc {W w1 : World} (a : Addr) (v : Value) (hb : Below W.heap.size W w1) (h : W.cell? a = some v) : w1.cell? a = some v := (hb.cell (World.block_lt_of_cell? _ _ h)).trans h
theorem kf {W w1 : World} (a : Addr) (v : Value) (hb : Below W.heap.size W w1) (h : W.cell? a = some v) (g : W.frozen? a = false) : w1.frozen? a = false := (hb.frozen (World.block_lt_of_cell? _ _ h)).trans g
theorem beyondD {w w1 w2 : World} (h1 : Below w.heap.size w w1) (h2 : Below w1.heap.size w1 w2) : Below w.heap.size w w2 := h1.trans (h2.mono h1.size)
theorem rI {k : IntKind} {a b : Int} (h : a = b) : Ending.returned (.int k a) = .returned (.int k b) := by rw [h]

theorem side_any (n : Nat) (w : World) (h : n ≤ 8) :
    Calls Tryz.prog 36 #[.agg #[.int .i64 n]] w fun e w' => e = .returned (.int .i64 ((n + 1 : Nat) : Int)) ∧ Below w.heap.size w w' := by
  go_enter Tryz.func36, Tryz.ntmps36
  go_wp2
  go_ret
  exact ⟨rI (by first | omega | (unfold wrap64; omega)), below_one _ _⟩
theorem mayHave_any (n : Int) (w : World) :
    Calls Tryz.prog 34 #[.int .i64 n] w fun e w' => e = .returned (.bool (decide (0 ≤ n ∧ n ≤ 8))) ∧ w' = w := by
  by_cases h : 0 ≤ n
  · by_cases h1 : n ≤ 8
    · rw [decide_eq_true ⟨h, h1⟩]
      go_enter Tryz.func34, Tryz.ntmps34
      go_wp2
      all_goals go_ret
      all_goals first | exact ⟨rfl, rfl⟩ | (exfalso; omega) | (exfalso; simp_all; done) | (rename_i hh; exfalso; simp at hh; omega) | trace_state
    · rw [decide_eq_false (by omega)]
      go_enter Tryz.func34, Tryz.ntmps34
      go_wp2
      all_goals go_ret
      all_goals first | exact ⟨rfl, rfl⟩ | (exfalso; omega) | (exfalso; simp_all; done) | (rename_i hh; exfalso; simp at hh; omega) | trace_state
  · rw [decide_eq_false (by omega)]
    go_enter Tryz.func34, Tryz.ntmps34
    go_wp2
    all_goals go_ret
    all_goals first | exact ⟨rfl, rfl⟩ | (exfalso; omega) | (exfalso; simp_all; done) | (rename_i hh; exfalso; simp at hh; omega) | trace_state
/-- A row's cell of a draft. -/
abbrev at9 (b i j : Nat) : Addr := ⟨b, 1 + i * 9 + j, none⟩
theorem place_raw (n k s q r : Int) (w : World) (hs : ¬ s = 0) (q1 : IntKind.i64.wrap (k.tdiv s) = q) (q2 : k.tmod s = r) (HS : Hid (∀ w, Calls Tryz.prog 36 #[.agg #[.int .i64 n]] w fun e w' => e = .returned (.int .i64 s) ∧ Below w.heap.size w w')) :
    Calls Tryz.prog 38 #[.agg #[.int .i64 n], .int .i64 k] w fun e w' => e = .returned (.tuple #[.int .i64 q, .int .i64 r]) ∧ Below w.heap.size w w' := by
  go_enter Tryz.func38, Tryz.ntmps38
  go_wp2_with fail
  have c0 : (w.alloc (.cells #[.int .i64 n] 74)).cell? ⟨w.heap.size, 0, none⟩ = some (.int .i64 n) := by simp [go_sem]
  have B0 := below_one w (.cells #[.int .i64 n] 74)
  generalize w.alloc (.cells #[.int .i64 n] 74) = W at *
  go_region_held3 (fun w' => Below w.heap.size w w' ∧ w'.cell? ⟨w.heap.size, 0, none⟩ = some (.int .i64 n))
    (first | exact ⟨by first | assumption | (apply Below.drew; assumption), by first | assumption | simp [go_sem, *]⟩ | go_keep)
    (first | (go_at_call 36; refine (HS.out _).mono ?_; rintro e w' ⟨rfl, hb⟩; have s0 := kc ⟨w.heap.size, 0, none⟩ (.int .i64 n) hb (by first | assumption | simp [go_sem, *]); have s1 := beyondD (by first | assumption | (apply Below.drew; assumption)) hb))
  all_goals
    go_wp2
    refine bodyPost_ret (v := .tuple #[.int .i64 q, .int .i64 r]) (by simp [results, Tryz.results38, go_sem, *]) rfl ⟨rfl, ?_⟩
    assumption
theorem place_any (n k : Nat) (w : World) (h : n ≤ 8) (hk : k < 81) :
    Calls Tryz.prog 38 #[.agg #[.int .i64 n], .int .i64 k] w fun e w' => e = .returned (.tuple #[.int .i64 ((k / (n + 1) : Nat) : Int), .int .i64 ((k % (n + 1) : Nat) : Int)]) ∧ Below w.heap.size w w' := by
  refine place_raw n k ((n + 1 : Nat) : Int) _ _ w (by omega) ?_ ?_ (fun w => side_any n w h)
  · rw [Int.tdiv_eq_ediv_of_nonneg (by omega), ← Int.natCast_ediv]
    have := Nat.div_le_self k (n + 1)
    generalize k / (n + 1) = z at *
    rw [IntKind.wrap_i64]
    omega
  · rw [Int.tmod_eq_emod_of_nonneg (by omega), ← Int.natCast_emod]
def opn : Int := 4611686018427387904
def dplus (a b : Int) : Int := if a = opn ∨ b = opn then opn else wrap64 (wrap64 (a + b) - bits .and .i64 (bits .or .i64 a b) 1)
theorem dplus_any (a b : Int) (w : World) :
    Calls Tryz.prog 116 #[.int .i64 a, .int .i64 b] w fun e w' => e = .returned (.int .i64 (dplus a b)) ∧ w' = w := by
  by_cases h : a = opn
  · have e : dplus a b = opn := by simp [dplus, h]
    rw [e]
    clear e
    unfold opn at *
    go_enter Tryz.func116, Tryz.ntmps116
    go_wp2
    all_goals go_ret
    all_goals first | exact ⟨rfl, rfl⟩ | (exfalso; omega) | (exfalso; simp_all; done) | (rename_i hh; exfalso; simp at hh; omega) | trace_state
  · by_cases h1 : b = opn
    · have e : dplus a b = opn := by simp [dplus, h1]
      rw [e]
      clear e
      unfold opn at *
      go_enter Tryz.func116, Tryz.ntmps116
      go_wp2
      all_goals go_ret
      all_goals first | exact ⟨rfl, rfl⟩ | (exfalso; omega) | (exfalso; simp_all; done) | (rename_i hh; exfalso; simp at hh; omega) | trace_state
    · have e : dplus a b = wrap64 (wrap64 (a + b) - bits .and .i64 (bits .or .i64 a b) 1) := by simp [dplus, h, h1]
      rw [e]
      clear e
      unfold opn at *
      go_enter Tryz.func116, Tryz.ntmps116
      go_wp2
      all_goals go_ret
      all_goals first | exact ⟨rfl, rfl⟩ | (exfalso; omega) | (exfalso; simp_all; done) | (rename_i hh; exfalso; simp at hh; omega) | trace_state
def narB (x : Int) : Int := if x = opn then 2147483647 else if x < -536870912 ∨ 536870913 < x then 0 else x
def narOk (x : Int) : Bool := decide (x = opn) || !decide (x < -536870912 ∨ 536870913 < x)
theorem narrow_dbm (x : Int) (w : World) :
    Calls Tryz.prog 64 #[.int .i64 x] w fun e w' => e = .returned (.tuple #[.int .i32 (narB x), .bool (narOk x)]) ∧ w' = w := by
  by_cases h : x = opn
  · have e : narB x = 2147483647 := by simp [narB, h]
    have e1 : narOk x = true := by simp [narOk, h]
    rw [e, e1]
    clear e e1
    unfold opn at *
    go_enter Tryz.func64, Tryz.ntmps64
    go_wp2
    all_goals (refine bodyPost_ret (v := .tuple #[.int .i32 2147483647, .bool true]) (by simp [results, Tryz.results64, go_sem, *]) rfl ?_)
    all_goals first | exact ⟨rfl, rfl⟩ | (exfalso; omega) | (exfalso; simp_all; done) | (rename_i hh; exfalso; simp at hh; omega) | trace_state
  · by_cases h1 : x < -536870912 ∨ 536870913 < x
    · have e : narB x = 0 := by simp [narB, h, h1]
      have e1 : narOk x = false := by simp [narOk, h, h1]
      rw [e, e1]
      clear e e1
      unfold opn at *
      go_enter Tryz.func64, Tryz.ntmps64
      go_wp2
      all_goals (refine bodyPost_ret (v := .tuple #[.int .i32 0, .bool false]) (by simp [results, Tryz.results64, go_sem, *]) rfl ?_)
      all_goals first | exact ⟨rfl, rfl⟩ | (exfalso; omega) | (exfalso; simp_all; done) | (rename_i hh; exfalso; simp at hh; omega) | trace_state
    · have e : narB x = x := by simp [narB, h, h1]
      have e1 : narOk x = true := by simp [narOk, h, h1]
      rw [e, e1]
      clear e e1
      unfold opn at *
      go_enter Tryz.func64, Tryz.ntmps64
      go_wp2
      all_goals (refine bodyPost_ret (v := .tuple #[.int .i32 x, .bool true]) (by simp [results, Tryz.results64, go_sem, *]) rfl ?_)
      all_goals first | exact ⟨rfl, rfl⟩ | (exfalso; omega) | (exfalso; simp_all; done) | (rename_i hh; exfalso; simp at hh; omega) | trace_state
theorem tighten_inf (p : Addr) (i j : Int) (w : World) :
    Calls Tryz.prog 39 #[.pointer (some p), .int .i64 i, .int .i64 j, .int .i32 2147483647] w fun e w' => e = .returned (.tuple #[]) ∧ w' = w := by
  go_enter Tryz.func39, Tryz.ntmps39
  go_wp2
  go_end0
  exact ⟨rfl, rfl⟩
theorem tighten_fin (b i j : Nat) (x y : Int) (w : World) (i1 : i ≤ 8) (j1 : j ≤ 8) (hx : (x == 2147483647) = false) (x0 : -2147483648 ≤ x) (x1 : x ≤ 2147483647) (hc : w.cell? (at9 b i j) = some (.int .i64 y)) (hf : w.frozen? (at9 b i j) = false) :
    Calls Tryz.prog 39 #[.pointer (some ⟨b, 0, none⟩), .int .i64 i, .int .i64 j, .int .i32 x] w fun e w' => e = .returned (.tuple #[]) ∧ w' = (w.setCell (at9 b i j) (.int .i64 (min y x))).drew := by
  have ex : wrap64 x = x := by unfold wrap64; omega
  have EX := hideD ex
  clear ex
  go_enter Tryz.func39, Tryz.ntmps39
  go_wp2
  go_big_region
  all_goals go_wp2
  all_goals go_end0
  all_goals
    have ex := EX.out
    refine ⟨rfl, ?_⟩
    rw [show min y x = (if y ≤ x then y else x) from Int.min_def y x]
    first | (rw [if_pos (by omega)]; done) | (rw [if_pos (by omega), ex]; done) | (rw [if_neg (by omega)]; done) | (rw [if_neg (by omega), ex]; done)
end Go.Proofs.YtnfkmpickmonoaaGreat

/-
  A draft in memory, and the contract of draftOf.
-/
namespace Go.Proofs.YtnfkmpickmonoaaGreat
open Go.RowKit
set_option linter.unusedVariables false
abbrev Mat := Nat → Nat → Int
def upd (r : Mat) (i j : Nat) (v : Int) : Mat := fun a c => if a = i ∧ c = j then v else r a c
/-- In block b there lies a draft of n clocks with these rows. -/
structure Draft (w : World) (b n : Nat) (r : Mat) : Prop where
  clocks : w.cell? ⟨b, 0, none⟩ = some (.int .i64 n)
  cell : ∀ i j, i ≤ 8 → j ≤ 8 → w.cell? (at9 b i j) = some (.int .i64 (r i j))
  free : ∀ i j, i ≤ 8 → j ≤ 8 → w.frozen? (at9 b i j) = false
theorem Draft.set {w : World} {b n : Nat} {r : Mat} (h : Draft w b n r) {i j : Nat} (hi : i ≤ 8) (hj : j ≤ 8) (v : Int) : Draft (w.setCell (at9 b i j) (.int .i64 v)) b n (upd r i j v) := by
  refine ⟨?_, ?_, ?_⟩
  · rw [World.cell?_setCell_other _ _ _ _ (by intro e; injection e; omega)]
    exact h.clocks
  · intro a c ha hc
    by_cases e : a = i ∧ c = j
    · obtain ⟨rfl, rfl⟩ := e
      rw [World.cell?_setCell_same _ _ _ (h.cell a c ha hc)]
      simp [upd]
    · rw [World.cell?_setCell_other _ _ _ _ (by intro e; injection e; omega), h.cell a c ha hc]
      simp [upd, e]
  · intro a c ha hc
    rw [World.frozen?_setCell]
    exact h.free a c ha hc
theorem Draft.drew {w : World} {b n : Nat} {r : Mat} (h : Draft w b n r) : Draft w.drew b n r := ⟨h.clocks, h.cell, h.free⟩
theorem Draft.drewN {w : World} {b n : Nat} {r : Mat} (h : Draft w b n r) (k : Nat) : Draft (w.drewN k) b n r := ⟨h.clocks, h.cell, h.free⟩
theorem Draft.lt {w : World} {b n : Nat} {r : Mat} (h : Draft w b n r) : b < w.heap.size := World.block_lt_of_cell? _ _ h.clocks
theorem Draft.later {w w' : World} {b n : Nat} {r : Mat} (h : Draft w b n r) {B : Nat} (hb : Below B w w') (hB : b < B) : Draft w' b n r :=
  ⟨(hb.cell hB).trans h.clocks, fun i j hi hj => (hb.cell (p := at9 b i j) hB).trans (h.cell i j hi hj), fun i j hi hj => (hb.frozen (p := at9 b i j) hB).trans (h.free i j hi hj)⟩
def z82 : Array Value := Array.replicate 82 (.int .i64 0)
theorem zero82 (w : World) : Sem.run Tryz.prog (zeroValue 78) w = .ok (.agg z82) w := by kernel_rfl
theorem z82_ne : (z82 = #[]) = False := by simp [z82]
theorem new_draft (w : World) (n : Nat) (T : TypeId) : Draft (w.alloc (.cells (z82.setIfInBounds 0 (.int .i64 n)) T)) w.heap.size n (fun _ _ => 0) := by
  refine ⟨?_, ?_, ?_⟩
  · simp [go_sem, z82]
  · intro i j hi hj
    rw [World.cell?_alloc_at _ _ _ _ rfl, Array.getElem?_setIfInBounds_ne (by omega)]
    rw [z82, Array.getElem?_replicate, if_pos (by omega)]
  · intro i j hi hj
    simp [go_sem]
/-- The rows of all valuations, in the part that is laid: the rows ahead of I, and of row I the places ahead of J. -/
def startV (i j : Nat) : Int := if i ≠ 0 ∧ i ≠ j then 4611686018427387904 else 1
def startR (n I J : Nat) : Mat := fun a c => if (a < I ∧ c ≤ n) ∨ (a = I ∧ c < J) then startV a c else 0
theorem startR_next (n I J : Nat) : upd (startR n I J) I J (startV I J) = startR n I (J + 1) := by
  funext a c
  unfold upd startR
  by_cases e : a = I ∧ c = J
  · obtain ⟨rfl, rfl⟩ := e
    simp
  · rw [if_neg e]
    congr 1
    apply propext
    omega
theorem startR_row (n I : Nat) : startR n I (n + 1) = startR n (I + 1) 0 := by
  funext a c
  unfold startR
  congr 1
  apply propext
  omega
set_option maxHeartbeats 1000000 in
theorem draftOf_any (n : Nat) (w : World) (h : n ≤ 8) :
    Calls Tryz.prog 35 #[.int .i64 n] w fun e w' => e = .returned (.pointer (some ⟨w.heap.size, 0, none⟩)) ∧ Draft w' w.heap.size n (startR n (n + 1) 0) ∧ Below w.heap.size w w' := by
  have Z := fun w => zero82 w
  have Zn := z82_ne
  have D0 := hideD (new_draft w n 78)
  go_enter Tryz.func35, Tryz.ntmps35
  go_wp2_with fail
  have B0 := below_one w (.cells (z82.setIfInBounds 0 (.int .i64 n)) 78)
  generalize w.alloc (.cells (z82.setIfInBounds 0 (.int .i64 n)) 78) = W at *
  have e0 : (fun _ _ => (0 : Int)) = startR n 0 0 := by funext a c; simp [startR]
  rw [e0] at D0
  clear Z Zn e0
  go_loopw [4] (fun s wr => ∃ I : Nat, I ≤ n + 1 ∧ s = .int .i64 I ∧ Hid (Draft wr w.heap.size n (startR n I 0)) ∧ Hid (Below w.heap.size w wr)) (fun s _ => n + 1 - (intOf s).toNat)
  case atStart => exact ⟨0, by omega, rfl, D0, B0⟩
  case round =>
    obtain ⟨I, hI, rfl, hD, hB⟩ := hrel
    by_cases c : I ≤ n
    · go_wp2_with fail
      go_loopw [5] (fun s wr => ∃ J : Nat, J ≤ n + 1 ∧ s = .int .i64 J ∧ Hid (Draft wr w.heap.size n (startR n I J)) ∧ Hid (Below w.heap.size w wr)) (fun s _ => n + 1 - (intOf s).toNat)
      case atStart => exact ⟨0, by omega, rfl, hD, hB⟩
      case round =>
        obtain ⟨J, hJ, rfl, hD, hB⟩ := hrel
        by_cases cj : J ≤ n
        · have hc := hD.out.cell I J (by omega) (by omega)
          have hf := hD.out.free I J (by omega) (by omega)
          have nx := startR_next n I J
          by_cases e : I ≠ 0 ∧ I ≠ J
          · have ev : startV I J = 4611686018427387904 := by simp [startV, e]
            have t1 : ((I : Int) != 0) = true := by simp; omega
            have t2 : ((I : Int) != (J : Int)) = true := by simp; omega
            go_wp2_with fail
            go_roundw
            case rel => exact ⟨J + 1, by omega, by go_num, (by rw [← nx, ev]; exact hD.out.set (by omega) (by omega) _ : Draft _ _ _ _), hB.out.setCell (Nat.le_refl _) _⟩
            case measure => simp [intOf]; omega
          · have ev : startV I J = 1 := by simp [startV]; omega
            by_cases e1 : I = 0
            · subst e1
              have hc : wr.cell? ⟨w.heap.size, 1 + J, none⟩ = some (.int .i64 (startR n 0 J 0 J)) := by have := hc; simpa using this
              have hf : wr.frozen? ⟨w.heap.size, 1 + J, none⟩ = false := by have := hf; simpa using this
              go_wp2_with fail
              go_roundw
              case rel =>
                refine ⟨J + 1, by omega, by go_num, ?_, hB.out.setCell (Nat.le_refl _) _⟩
                have := hD.out.set (i := 0) (j := J) (by omega) (by omega) 1
                rw [← nx, ev]
                exact hideD (by simpa [at9] using this)
              case measure => simp [intOf]; omega
            · have t1 : ((I : Int) != 0) = true := by simp; omega
              obtain rfl : I = J := by omega
              go_wp2_with fail
              go_roundw
              case rel => exact ⟨I + 1, by omega, by go_num, (by rw [← nx, ev]; exact hD.out.set (by omega) (by omega) _ : Draft _ _ _ _), hB.out.setCell (Nat.le_refl _) _⟩
              case measure => simp [intOf]; omega
        · have ej : J = n + 1 := by omega
          subst ej
          rw [startR_row] at hD
          go_wp2_with fail
          go_roundw
          case rel => exact ⟨I + 1, by omega, by go_num, hD, hB⟩
          case measure => simp [intOf]; omega
    · have eI : I = n + 1 := by omega
      subst eI
      go_wp2_with fail
      go_ret
      exact ⟨rfl, hD.out, hB.out⟩
end Go.Proofs.YtnfkmpickmonoaaGreat
