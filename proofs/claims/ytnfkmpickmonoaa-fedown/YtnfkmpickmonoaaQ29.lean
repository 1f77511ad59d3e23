/-
  fed: a zone with one limit more.
-/
import Derived.Test.YtnfkmpickmonoaaQ28
namespace Go.Proofs.Ytnfkmpickmonoaa
open Go.RowKit
set_option linter.unusedVariables false
set_option maxRecDepth 100000
/-- The cells with one of them stricter. -/
def lowR (c : Row) (k : Nat) (v : Int) : Row := fun j => if j = k then min (c j) v else c j
def one1 (i j v : Int) : Lims := ⟨1, fun _ => i, fun _ => j, fun _ => v⟩
/-- The zone of a zone with one limit more. -/
def conZ (n m : Nat) (c : Row) (k : Nat) (v : Int) : Option Row := zoneR n (drf n m (listOf (lowR c k v) m))
theorem low_right {c : Row} {k : Nat} {v : Int} (h : ∀ j, rightB (c j) = true) (hv : rightB v = true) : ∀ j, rightB (lowR c k v j) = true := fun j => by
  unfold lowR
  split
  · exact right_min (c := fun _ => c j) (d := fun _ => v) (k := 0) (h j) hv
  · exact h j
theorem low_rows {n m i j : Nat} {c : Row} {v : Int} (hm : m = (n + 1) * (n + 1)) (hi : i ≤ n) (hj : j ≤ n) : rowsL n (limK (one1 i j v) 1 (oR n c m)) (n + 1) = listOf (lowR c (i * (n + 1) + j) v) m := by
  refine rows_of hm fun a b ha hb => eq_of_le fun x => ?_
  rw [le_limK, oR_at hm ha hb]
  unfold lowR one1
  simp only [Int.toNat_natCast]
  constructor
  · rintro ⟨h1, h2⟩
    split
    · rename_i e
      obtain ⟨rfl, rfl⟩ := pos_inj hb hj e
      exact Int.le_min.2 ⟨h1, h2 0 (by omega) rfl rfl⟩
    · exact h1
  · intro h
    split at h
    · rename_i e
      obtain ⟨rfl, rfl⟩ := pos_inj hb hj e
      exact ⟨(Int.le_min.1 h).1, fun _ _ _ _ => (Int.le_min.1 h).2⟩
    · rename_i e
      refine ⟨h, fun _ _ h1 h2 => absurd ?_ e⟩
      rw [← h1, ← h2]
theorem con_one (b n m i j g : Nat) (c : Row) (v : Int) (w : World) (hn : n ≤ 8) (hm : m = (n + 1) * (n + 1)) (hz : ZoneAt w b n c) (hc : C32 c) (zc : ZC n m c) (hi : i ≤ n) (hj : j ≤ n) (hv : rightB v = true) (v0 : -2147483648 ≤ v) (v1 : v ≤ 2147483647)
    (c0 : w.cell? ⟨g, 0, none⟩ = some (.int .i64 i)) (c1 : w.cell? ⟨g, 1, none⟩ = some (.int .i64 j)) (c2 : w.cell? ⟨g, 2, none⟩ = some (.int .i32 v)) :
    Calls Try.prog 80 #[.pointer (some ⟨b, 0, none⟩), .slice (some ⟨g, 0, none⟩) 1 1] w fun e w' => ZoneOut w' w.heap.size n e (conZ n m c (i * (n + 1) + j) v) ∧ Below w.heap.size w w' := by
  have hR : LimRow w g 0 (one1 i j v) := fun k hk => by
    obtain rfl : k = 0 := by have : k < 1 := hk; omega
    exact ⟨c0, c1, c2⟩
  refine (con_main b n g 0 1 c (one1 i j v) w hn hz hc hR (World.block_lt_of_cell? _ _ c0) (fun k _ => ⟨v0, v1⟩) (by show (1 : Nat) ≤ _; omega)).mono fun e w' ⟨h, hb⟩ => ⟨?_, hb⟩
  have hb1 : bndA n (one1 i j v) 1 = true := by
    show (true && decide (0 ≤ (i : Int) ∧ (i : Int) ≤ (n : Int) ∧ 0 ≤ (j : Int) ∧ (j : Int) ≤ (n : Int))) = true
    rw [decide_eq_true (by omega)]
    rfl
  have hr1 : rgtA (one1 i j v) 1 = true := by simp only [rgtA, one1, Bool.true_and, hv]
  rcases h with ⟨h, -⟩ | ⟨-, h, -⟩ | ⟨-, -, h⟩
  · rw [show (one1 (↑i) (↑j) v).q = 1 from rfl, hb1] at h
    cases h
  · rw [show (one1 (↑i) (↑j) v).q = 1 from rfl, hr1] at h
    cases h
  · refine ops_of hm h ?_ (low_right (zc_right hm zc) hv)
    rw [← hm]
    exact low_rows hm hi hj
end Go.Proofs.Ytnfkmpickmonoaa

/-
  fed: Dim and Empty of zones, nil or not.
-/
namespace Go.Proofs.Ytnfkmpickmonoaa
open Go.RowKit
set_option linter.unusedVariables false
set_option maxRecDepth 100000
/-! ### Dim, Empty, and nil -/
theorem zdim_any (b n : Nat) (c : Row) (w : World) (hz : ZoneAt w b n c) : Calls Try.prog 41 #[.pointer (some ⟨b, 0, none⟩)] w fun e w' => e = .returned (.int .i64 n) ∧ w' = w := by
  have h0 := hz.clocks
  clear hz
  go_enter Try.func41, Try.ntmps41
  go_wp2_with fail
  go_ret
  exact ⟨rfl, rfl⟩
theorem rdim_any {w : World} {B b n : Nat} {l : List Int} (h : RZone w B b n l) : Calls Try.prog 43 #[.pointer (some ⟨b, 0, none⟩)] w fun e w' => e = .returned (.int .i64 n) ∧ w' = w := by
  obtain ⟨g, cap, h0, -⟩ := h
  go_enter Try.func43, Try.ntmps43
  go_wp2_with fail
  go_ret
  exact ⟨rfl, rfl⟩
theorem zempty_any (b n : Nat) (c : Row) (w : World) (hn : n ≤ 8) (hz : ZoneAt w b n c) :
    Calls Try.prog 23 #[.pointer (some ⟨b, 0, none⟩)] w fun e w' => e = .returned (.bool (decide (c 0 < 1))) ∧ Below w.heap.size w w' := by
  have H := hideD (hollow_any b n c w hn hz)
  generalize decide (c 0 < 1) = q at *
  clear hz
  go_enter Try.func23, Try.ntmps23
  go_wp2_with fail
  refine H.out.mono ?_
  rintro e w' ⟨rfl, hb⟩
  go_wp2_with fail
  go_ret
  exact ⟨rfl, hb⟩
end Go.Proofs.Ytnfkmpickmonoaa
