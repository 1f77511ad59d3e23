/-
  A draft in memory, and the contract of draftOf.
-/
import Derived.Test.YtjanibholjimkaaQ0
namespace Go.Proofs.Ytjanibholjimkaa
open Go.RowKit
set_option linter.unusedVariables false
abbrev Mat := Nat → Nat → Int
def upd (r : Mat) (i j : Nat) (v : Int) : Mat := fun a c => if a = i ∧ c = j then v else r a c
/-- In block b there lies a draft of n clocks with these rows. -/
structure Draft (w : World) (b n : Nat) (r : Mat) : Prop where
  clocks : w.cell? ⟨b, 0, none⟩ = some (.int .i64 n)
  cell : ∀ i j, i ≤ 8 → j ≤ 8 → w.cell? (at9 b i j) = some (.int .i64 (r i j))
  free : ∀ i j, i ≤ 8 → j ≤ 8 → w.frozen? (at9 b i j) = false
theorem Draft.set {w : World} {b n : Nat} {r : Mat} (h : Draft w b n r) {i j : Nat} (hi : i ≤ 8) (hj : j ≤ 8) (v : Int) : Draft (w.setCell (at9 b i j) (.int .i64 v)) b n (upd r i j v) := by
  refine ⟨?_, ?_, ?_⟩
  · rw [World.cell?_setCell_other _ _ _ _ (by intro e; injection e; omega)]
    exact h.clocks
  · intro a c ha hc
    by_cases e : a = i ∧ c = j
    · obtain ⟨rfl, rfl⟩ := e
      rw [World.cell?_setCell_same _ _ _ (h.cell a c ha hc)]
      simp [upd]
    · rw [World.cell?_setCell_other _ _ _ _ (by intro e; injection e; omega), h.cell a c ha hc]
      simp [upd, e]
  · intro a c ha hc
    rw [World.frozen?_setCell]
    exact h.free a c ha hc
theorem Draft.drew {w : World} {b n : Nat} {r : Mat} (h : Draft w b n r) : Draft w.drew b n r := ⟨h.clocks, h.cell, h.free⟩
theorem Draft.drewN {w : World} {b n : Nat} {r : Mat} (h : Draft w b n r) (k : Nat) : Draft (w.drewN k) b n r := ⟨h.clocks, h.cell, h.free⟩
theorem Draft.lt {w : World} {b n : Nat} {r : Mat} (h : Draft w b n r) : b < w.heap.size := World.block_lt_of_cell? _ _ h.clocks
theorem Draft.later {w w' : World} {b n : Nat} {r : Mat} (h : Draft w b n r) {B : Nat} (hb : Below B w w') (hB : b < B) : Draft w' b n r :=
  ⟨(hb.cell hB).trans h.clocks, fun i j hi hj => (hb.cell (p := at9 b i j) hB).trans (h.cell i j hi hj), fun i j hi hj => (hb.frozen (p := at9 b i j) hB).trans (h.free i j hi hj)⟩
def z82 : Array Value := Array.replicate 82 (.int .i64 0)
theorem zero82 (w : World) : Sem.run Try.prog (zeroValue 91) w = .ok (.agg z82) w := by kernel_rfl
theorem z82_ne : (z82 = #[]) = False := by simp [z82]
theorem new_draft (w : World) (n : Nat) (T : TypeId) : Draft (w.alloc (.cells (z82.setIfInBounds 0 (.int .i64 n)) T)) w.heap.size n (fun _ _ => 0) := by
  refine ⟨?_, ?_, ?_⟩
  · simp [go_sem, z82]
  · intro i j hi hj
    rw [World.cell?_alloc_at _ _ _ _ rfl, Array.getElem?_setIfInBounds_ne (by omega)]
    rw [z82, Array.getElem?_replicate, if_pos (by omega)]
  · intro i j hi hj
    simp [go_sem]
/-- The rows of all valuations, in the part that is laid: the rows ahead of I, and of row I the places ahead of J. -/
def startV (i j : Nat) : Int := if i ≠ 0 ∧ i ≠ j then 4611686018427387904 else 1
def startR (n I J : Nat) : Mat := fun a c => if (a < I ∧ c ≤ n) ∨ (a = I ∧ c < J) then startV a c else 0
theorem startR_next (n I J : Nat) : upd (startR n I J) I J (startV I J) = startR n I (J + 1) := by
  funext a c
  unfold upd startR
  by_cases e : a = I ∧ c = J
  · obtain ⟨rfl, rfl⟩ := e
    simp
  · rw [if_neg e]
    congr 1
    apply propext
    omega
theorem startR_row (n I : Nat) : startR n I (n + 1) = startR n (I + 1) 0 := by
  funext a c
  unfold startR
  congr 1
  apply propext
  omega
set_option maxHeartbeats 1000000 in
theorem draftOf_any (n : Nat) (w : World) (h : n ≤ 8) :
    Calls Try.prog 18 #[.int .i64 n] w fun e w' => e = .returned (.pointer (some ⟨w.heap.size, 0, none⟩)) ∧ Draft w' w.heap.size n (startR n (n + 1) 0) ∧ Below w.heap.size w w' := by
  have Z := fun w => zero82 w
  have Zn := z82_ne
  have D0 := hideD (new_draft w n 91)
  go_enter Try.func18, Try.ntmps18
  go_wp2_with fail
  have B0 := below_one w (.cells (z82.setIfInBounds 0 (.int .i64 n)) 91)
  generalize w.alloc (.cells (z82.setIfInBounds 0 (.int .i64 n)) 91) = W at *
  have e0 : (fun _ _ => (0 : Int)) = startR n 0 0 := by funext a c; simp [startR]
  rw [e0] at D0
  clear Z Zn e0
  go_loopw [4] (fun s wr => ∃ I : Nat, I ≤ n + 1 ∧ s = .int .i64 I ∧ Hid (Draft wr w.heap.size n (startR n I 0)) ∧ Hid (Below w.heap.size w wr)) (fun s _ => n + 1 - (intOf s).toNat)
  case atStart => exact ⟨0, by omega, rfl, D0, B0⟩
  case round =>
    obtain ⟨I, hI, rfl, hD, hB⟩ := hrel
    by_cases c : I ≤ n
    · go_wp2_with fail
      go_loopw [5] (fun s wr => ∃ J : Nat, J ≤ n + 1 ∧ s = .int .i64 J ∧ Hid (Draft wr w.heap.size n (startR n I J)) ∧ Hid (Below w.heap.size w wr)) (fun s _ => n + 1 - (intOf s).toNat)
      case atStart => exact ⟨0, by omega, rfl, hD, hB⟩
      case round =>
        obtain ⟨J, hJ, rfl, hD, hB⟩ := hrel
        by_cases cj : J ≤ n
        · have hc := hD.out.cell I J (by omega) (by omega)
          have hf := hD.out.free I J (by omega) (by omega)
          have nx := startR_next n I J
          by_cases e : I ≠ 0 ∧ I ≠ J
          · have ev : startV I J = 4611686018427387904 := by simp [startV, e]
            have t1 : ((I : Int) != 0) = true := by simp; omega
            have t2 : ((I : Int) != (J : Int)) = true := by simp; omega
            go_wp2_with fail
            go_roundw
            case rel => exact ⟨J + 1, by omega, by go_num, (by rw [← nx, ev]; exact hD.out.set (by omega) (by omega) _ : Draft _ _ _ _), hB.out.setCell (Nat.le_refl _) _⟩
            case measure => simp [intOf]; omega
          · have ev : startV I J = 1 := by simp [startV]; omega
            by_cases e1 : I = 0
            · subst e1
              have hc : wr.cell? ⟨w.heap.size, 1 + J, none⟩ = some (.int .i64 (startR n 0 J 0 J)) := by have := hc; simpa using this
              have hf : wr.frozen? ⟨w.heap.size, 1 + J, none⟩ = false := by have := hf; simpa using this
              go_wp2_with fail
              go_roundw
              case rel =>
                refine ⟨J + 1, by omega, by go_num, ?_, hB.out.setCell (Nat.le_refl _) _⟩
                have := hD.out.set (i := 0) (j := J) (by omega) (by omega) 1
                rw [← nx, ev]
                exact hideD (by simpa [at9] using this)
              case measure => simp [intOf]; omega
            · have t1 : ((I : Int) != 0) = true := by simp; omega
              obtain rfl : I = J := by omega
              go_wp2_with fail
              go_roundw
              case rel => exact ⟨I + 1, by omega, by go_num, (by rw [← nx, ev]; exact hD.out.set (by omega) (by omega) _ : Draft _ _ _ _), hB.out.setCell (Nat.le_refl _) _⟩
              case measure => simp [intOf]; omega
        · have ej : J = n + 1 := by omega
          subst ej
          rw [startR_row] at hD
          go_wp2_with fail
          go_roundw
          case rel => exact ⟨I + 1, by omega, by go_num, hD, hB⟩
          case measure => simp [intOf]; omega
    · have eI : I = n + 1 := by omega
      subst eI
      go_wp2_with fail
      go_ret
      exact ⟨rfl, hD.out, hB.out⟩
end Go.Proofs.Ytjanibholjimkaa
