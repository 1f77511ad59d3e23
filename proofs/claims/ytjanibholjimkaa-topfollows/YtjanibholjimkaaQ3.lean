/-
  A zone in memory; the contracts of none, used, at, hollow, zone.
-/
import Derived.Test.YtjanibholjimkaaQ2
namespace Go.Proofs.Ytjanibholjimkaa
open Go.RowKit
set_option linter.unusedVariables false
abbrev Row := Nat → Int
/-- In block b there lies a zone of n clocks with these cells (the places behind the used ones hold 0). -/
structure ZoneAt (w : World) (b n : Nat) (c : Row) : Prop where
  clocks : w.cell? ⟨b, 0, none⟩ = some (.int .i64 n)
  cell : ∀ k, k < 81 → w.cell? ⟨b, 1 + k, none⟩ = some (.int .i32 (c k))
  free : ∀ k, k < 81 → w.frozen? ⟨b, 1 + k, none⟩ = false
def updR (c : Row) (k : Nat) (v : Int) : Row := fun a => if a = k then v else c a
theorem ZoneAt.set {w : World} {b n : Nat} {c : Row} (h : ZoneAt w b n c) {k : Nat} (hk : k < 81) (v : Int) : ZoneAt (w.setCell ⟨b, 1 + k, none⟩ (.int .i32 v)) b n (updR c k v) := by
  refine ⟨?_, ?_, ?_⟩
  · rw [World.cell?_setCell_other _ _ _ _ (by intro e; injection e; omega)]
    exact h.clocks
  · intro a ha
    by_cases e : a = k
    · subst e
      rw [World.cell?_setCell_same _ _ _ (h.cell a ha)]
      simp [updR]
    · rw [World.cell?_setCell_other _ _ _ _ (by intro e; injection e; omega), h.cell a ha]
      simp [updR, e]
  · intro a ha
    rw [World.frozen?_setCell]
    exact h.free a ha
theorem ZoneAt.lt {w : World} {b n : Nat} {c : Row} (h : ZoneAt w b n c) : b < w.heap.size := World.block_lt_of_cell? _ _ h.clocks
theorem ZoneAt.later {w w' : World} {b n : Nat} {c : Row} (h : ZoneAt w b n c) {B : Nat} (hb : Below B w w') (hB : b < B) : ZoneAt w' b n c :=
  ⟨(hb.cell hB).trans h.clocks, fun k hk => (hb.cell (p := ⟨b, 1 + k, none⟩) hB).trans (h.cell k hk), fun k hk => (hb.frozen (p := ⟨b, 1 + k, none⟩) hB).trans (h.free k hk)⟩
theorem ZoneAt.past {w w' : World} {b n : Nat} {c : Row} (h : ZoneAt w b n c) (hb : Below w.heap.size w w') : ZoneAt w' b n c := h.later hb h.lt

def y82 : Array Value := #[.int .i64 0] ++ Array.replicate 81 (.int .i32 0)
theorem zeroM (w : World) : Sem.run Try.prog (zeroValue 83) w = .ok (.agg y82) w := by kernel_rfl
theorem zeroZ (w : World) : Sem.run Try.prog (zeroValue 85) w = .ok (.agg y82) w := by kernel_rfl
theorem y82_ne : (y82 = #[]) = False := by simp [y82]
theorem y82_size : y82.size = 82 := by simp [y82]
theorem new_zone (w : World) (n : Nat) (T : TypeId) : ZoneAt (w.alloc (.cells (y82.setIfInBounds 0 (.int .i64 n)) T)) w.heap.size n (fun _ => 0) := by
  refine ⟨?_, ?_, ?_⟩
  · rw [World.cell?_alloc_at _ _ _ _ rfl]
    simp [y82]
  · intro k hk
    rw [World.cell?_alloc_at _ _ _ _ rfl, Array.getElem?_setIfInBounds_ne (by omega)]
    rw [y82, Array.getElem?_append_right (by simp), Array.getElem?_replicate]
    simp
    omega
  · intro k hk
    rw [World.frozen?_alloc_at _ _ _ _ rfl]
theorem build82 (v : Value) : Array.foldl (fun cs x => cs.setIfInBounds x.snd x.fst) y82 (y82.setIfInBounds 0 v).zipIdx 0 82 = y82.setIfInBounds 0 v := by kernel_rfl
theorem none_any (n : Nat) (w : World) :
    Calls Try.prog 39 #[.int .i64 n] w fun e w' => e = .returned (.pointer (some ⟨w.heap.size, 0, none⟩)) ∧ ZoneAt w' w.heap.size n (fun _ => 0) ∧ Below w.heap.size w w' ∧ w'.heap.size = w.heap.size + 1 := by
  have Z1 := fun w => zeroM w
  have Z2 := fun w => zeroZ w
  have Zn := y82_ne
  have Zs := y82_size
  go_enter Try.func39, Try.ntmps39
  go_wp2
  go_ret
  rw [build82]
  exact ⟨rfl, new_zone w n _, below_one _ _, by simp⟩
end Go.Proofs.Ytjanibholjimkaa
