/-
  What Of tells of both; what zones' cells are; sums of closed cells.
-/
import Derived.Test.YtmnckhchpbdfjaaHe
import Derived.Test.YtmnckhchpbdfjaaDp
import Derived.OpenShut
namespace Go.Proofs.Ytmnckhchpbdfjaa
open Go.RowKit
set_option linter.unusedVariables false
set_option maxRecDepth 100000
/-- A slice that was handed in reads as these bounds. -/
def SliceAt (w : World) (v : Value) (l : List Int) : Prop := (∃ ad c, v = .slice ad 0 c ∧ l = []) ∨ (∃ b off cap, v = .slice (some ⟨b, off, none⟩) l.length cap ∧ ∀ j, j < l.length → w.cell? ⟨b, off + j, none⟩ = some (.int .i32 (l.getD j 0)))
theorem SliceAt.later {w w' : World} {v : Value} {l : List Int} (h : SliceAt w v l) (hb : Below w.heap.size w w') : SliceAt w' v l := by
  rcases h with h | ⟨b, off, cap, rfl, hc⟩
  · exact .inl h
  · exact .inr ⟨b, off, cap, rfl, fun j hj => kc _ _ hb (hc j hj)⟩
theorem wf_list {l : List Int} (wf : ∀ z ∈ l, (Lit.int .i32 z).wf = true) : ∀ j, j < l.length → -2147483648 ≤ l.getD j 0 ∧ l.getD j 0 ≤ 2147483647 := fun j hj => by
  have e : l.getD j 0 = l[j] := by simp [List.getD, hj]
  rw [e]
  exact bounds_i32 (wf _ (List.getElem_mem hj))
theorem allRight_at {l : List Int} {m : Nat} (h : allRight l m = true) (k : Nat) (hk : k < m) : rightB (l.getD k 0) = true := by
  induction m with
  | zero => omega
  | succ m ih =>
    simp only [allRight, Bool.and_eq_true] at h
    by_cases e : k = m
    · subst e; exact h.2
    · exact ih h.1 (by omega)
/-- Cells that a zone can have. -/
def Made (n : Nat) (c : Row) : Prop := ∃ r : Mat, (∀ i, i ≤ n → r i i ≤ 1) ∧ zoneR n r = some c
theorem narB_range (x : Int) : -2147483648 ≤ narB x ∧ narB x ≤ 2147483647 := by
  unfold narB
  split
  · omega
  · split <;> omega
theorem narB_right (x : Int) : rightB (narB x) = true := by
  unfold narB rightB
  split
  · simp
  · split
    · simp
    · simp; omega
theorem Made.range {n : Nat} {c : Row} (h : Made n c) (j : Nat) : -2147483648 ≤ c j ∧ c j ≤ 2147483647 := by
  obtain ⟨r, -, h⟩ := h
  unfold zoneR at h
  split at h
  · cases h
    exact ⟨by show (-2147483648 : Int) ≤ 0; omega, by show (0 : Int) ≤ 2147483647; omega⟩
  · split at h
    · cases h
      unfold cellsUpto
      split
      · exact narB_range _
      · omega
    · cases h
theorem Made.right {n : Nat} {c : Row} (h : Made n c) (j : Nat) : rightB (c j) = true := by
  obtain ⟨r, -, h⟩ := h
  unfold zoneR at h
  split at h
  · cases h
    rfl
  · split at h
    · cases h
      unfold cellsUpto
      split
      · exact narB_right _
      · rfl
    · cases h
theorem Made.zero {n : Nat} {c : Row} (h : Made n c) (j : Nat) (hj : (n + 1) * (n + 1) ≤ j) : c j = 0 := by
  obtain ⟨r, -, h⟩ := h
  unfold zoneR at h
  split at h
  · cases h
    rfl
  · split at h
    · cases h
      unfold cellsUpto
      rw [if_neg (by omega)]
    · cases h
theorem narB_one : narB 1 = 1 := by decide
/-- A zone's first cell: at most 0, or it is empty. -/
theorem Made.head {n : Nat} {c : Row} (h : Made n c) : c 0 = 1 ∨ ∀ j, c j = 0 := by
  obtain ⟨r, hd, h⟩ := h
  unfold zoneR at h
  split at h
  · cases h
    exact .inr fun _ => rfl
  · rename_i p e
    split at h
    · cases h
      left
      have := close_one' hd e 0 (by omega)
      unfold cellsUpto flat
      rw [if_pos (Nat.mul_pos (by omega) (by omega)), Nat.zero_div, Nat.zero_mod, this]
      exact narB_one
    · cases h
/-! ### Equal -/
theorem scUpto_iff (l m : List Int) (k : Nat) : scUpto l m k = true ↔ ∀ j, j < k → l.getD j 0 = m.getD j 0 := by
  induction k with
  | zero => simp [scUpto]
  | succ k ih =>
    simp only [scUpto, Bool.and_eq_true, ih, beq_iff_eq]
    constructor
    · rintro ⟨a, b⟩ j hj
      by_cases e : j = k
      · subst e; exact b
      · exact a j (by omega)
    · intro h
      exact ⟨fun j hj => h j (by omega), h k (by omega)⟩
theorem equal_same {n m : Nat} {c d : Row} (hc : Made n c) (hd : Made n d) (hm : m = (n + 1) * (n + 1)) (h81 : m ≤ 81) : eqUpto c d 81 = scUpto (listOf c m) (listOf d m) m := by
  rw [Bool.eq_iff_iff, scUpto_iff]
  simp only [eqUpto, List.all_eq_true, List.mem_range, beq_iff_eq]
  constructor
  · intro h j hj
    rw [listOf_get _ _ _ hj, listOf_get _ _ _ hj]
    exact h j (by omega)
  · intro h j hj
    by_cases q : j < m
    · have := h j q
      rw [listOf_get _ _ _ q, listOf_get _ _ _ q] at this
      exact this
    · rw [hc.zero j (by omega), hd.zero j (by omega)]
/-! ### Includes -/
theorem nless_iff (c d : Row) (m : Nat) : nless c d m = true ↔ ∀ j, j < m → d j ≤ c j := by
  induction m with
  | zero => simp [nless]
  | succ m ih =>
    simp only [nless, Bool.and_eq_true, ih, decide_eq_true_eq]
    constructor
    · rintro ⟨a, b⟩ j hj
      by_cases e : j = m
      · subst e; exact b
      · exact a j (by omega)
    · intro h
      exact ⟨fun j hj => h j (by omega), h m (by omega)⟩
/-- Both say this of a row in whatever later world. -/
def Told (w : World) (n : Int) (v : Value) (e : Int) : Prop :=
  (∀ w', Below w.heap.size w w' → Calls Try.prog 4 #[.int .i64 n, v] w' fun x w'' => (∃ p, x = .returned (.tuple #[p, .int .i64 e])) ∧ Below w'.heap.size w' w'') ∧ (∀ w', Below w.heap.size w w' → Calls Try.prog 5 #[.int .i64 n, v] w' fun x w'' => (∃ p, x = .returned (.tuple #[p, .int .i64 e])) ∧ Below w'.heap.size w' w'')
def OfTells (w : World) (n : Int) (v : Value) (l : List Int) : Prop :=
  (∃ e : Int, (e != 0) = true ∧ Told w n v e) ∨
  (Told w n v 0 ∧ ∃ (N : Nat) (c : Row), n = N ∧ N ≤ 8 ∧ l.length = (N + 1) * (N + 1) ∧ (∀ k, k < l.length → rightB (l.getD k 0) = true) ∧ zoneR N (drf N l.length l) = some c ∧
    (∀ w', Below w.heap.size w w' → Calls Try.prog 4 #[.int .i64 n, v] w' fun x w'' => Below w'.heap.size w' w'' ∧ ZoneOut w'' w'.heap.size N x (some c)))
theorem of_tells (n : Int) (v : Value) (l : List Int) (w : World) (hS : SliceAt w v l) (hi : ∀ j, j < l.length → -2147483648 ≤ l.getD j 0 ∧ l.getD j 0 ≤ 2147483647) (hby : l.length ≤ 9223372036854775807) : OfTells w n v l := by
  have same : ∀ {f : Nat} {e : Int} (w' : World), Calls Try.prog f #[.int .i64 n, v] w' (fun x w'' => x = errOf e ∧ w'' = w') → Calls Try.prog f #[.int .i64 n, v] w' (fun x w'' => (∃ p, x = .returned (.tuple #[p, .int .i64 e])) ∧ Below w'.heap.size w' w'') := fun w' h => h.mono fun x w'' ⟨hx, hw⟩ => ⟨⟨_, hx⟩, by rw [hw]; exact Below.refl _ _⟩
  by_cases hn : 0 ≤ n ∧ n ≤ 8
  · obtain ⟨N, rfl⟩ := Int.eq_ofNat_of_zero_le hn.1
    have N8 : N ≤ 8 := by omega
    have mp : 0 < (N + 1) * (N + 1) := Nat.mul_pos (by omega) (by omega)
    by_cases hl : l.length = (N + 1) * (N + 1)
    · rcases hS with ⟨ad, c, rfl, rfl⟩ | ⟨cb, off, cap, rfl, hc⟩
      · exfalso
        simp at hl
      · have hcb : cb < w.heap.size := World.block_lt_of_cell? _ _ (hc 0 (by omega))
        have row : ∀ w', Below w.heap.size w w' → RowAt w' cb off l := fun w' hb j hj => (hb.cell (p := ⟨cb, off + j, none⟩) hcb).trans (hc j hj)
        have P := fun w' hb => of_main N cb off cap l w' N8 hl (row w' hb) hi
        have R := fun w' hb => rof_main N cb off cap l w' N8 hl (row w' hb) hi
        cases ha : allRight l l.length
        · refine .inl ⟨7, rfl, fun w' hb => (P w' hb).mono fun x w'' h => ?_, fun w' hb => (R w' hb).mono fun x w'' h => ?_⟩
          · obtain ⟨h1, ⟨-, h2⟩ | ⟨h2, -⟩⟩ := h
            · exact ⟨⟨_, h2⟩, h1⟩
            · rw [ha] at h2; cases h2
          · obtain ⟨h1, ⟨-, h2⟩ | ⟨h2, -⟩⟩ := h
            · exact ⟨⟨_, h2⟩, h1⟩
            · rw [ha] at h2; cases h2
        · have os := of_same N l hl (fun j hj => (hi j (by omega)).2)
          cases hz : zoneR N (tgAll N l l.length (startR N (N + 1) 0)) with
          | none =>
            rw [hz] at os
            refine .inl ⟨10, rfl, fun w' hb => (P w' hb).mono fun x w'' h => ?_, fun w' hb => (R w' hb).mono fun x w'' h => ?_⟩
            · obtain ⟨h1, ⟨h2, -⟩ | ⟨-, h2⟩⟩ := h
              · rw [ha] at h2; cases h2
              · rw [hz] at h2; exact ⟨⟨_, h2⟩, h1⟩
            · obtain ⟨h1, ⟨h2, -⟩ | ⟨-, h2⟩⟩ := h
              · rw [ha] at h2; cases h2
              · rw [os] at h2; exact ⟨⟨_, h2⟩, h1⟩
          | some c =>
            rw [hz] at os
            have Z := fun w' hb => (P w' hb).mono (fun x w'' h => show Below w'.heap.size w' w'' ∧ ZoneOut w'' w'.heap.size N x (some c) from by
              obtain ⟨h1, ⟨h2, -⟩ | ⟨-, h2⟩⟩ := h
              · rw [ha] at h2; cases h2
              · rw [hz] at h2; exact ⟨h1, h2⟩)
            refine .inr ⟨⟨fun w' hb => (Z w' hb).mono fun x w'' h => ?_, fun w' hb => (R w' hb).mono fun x w'' h => ?_⟩, N, c, rfl, N8, hl, fun k hk => allRight_at ha k hk, hz, Z⟩
            · obtain ⟨h1, b', -, h2, -⟩ := h
              exact ⟨⟨_, h2⟩, h1⟩
            · obtain ⟨h1, ⟨h2, -⟩ | ⟨-, h2⟩⟩ := h
              · rw [ha] at h2; cases h2
              · rw [os] at h2
                obtain ⟨b', h2, -⟩ := h2
                exact ⟨⟨_, h2⟩, h1⟩
    · obtain ⟨ad, cap, rfl⟩ : ∃ ad cap, v = .slice ad l.length cap := by
        rcases hS with ⟨ad, c, rfl, rfl⟩ | ⟨cb, off, cap, rfl, hc⟩
        · exact ⟨ad, c, rfl⟩
        · exact ⟨_, cap, rfl⟩
      exact .inl ⟨6, rfl, fun w' hb => (of_long N l.length cap ad w' N8 hl hby).mono fun x w'' ⟨hx, hw⟩ => ⟨⟨_, hx⟩, hw⟩, fun w' hb => same w' (rof_long N l.length cap _ ad w' N8 rfl hl)⟩
  · exact .inl ⟨12, rfl, fun w' hb => same w' (of_clock n v w' hn), fun w' hb => same w' (rof_clock n v w' hn)⟩
theorem empty_any (b n : Nat) (c : Row) (w : World) (hn : n ≤ 8) (hz : ZoneAt w b n c) :
    Calls Try.prog 8 #[.pointer (some ⟨b, 0, none⟩)] w fun e w' => e = .returned (.bool (decide (c 0 < 1))) ∧ Below w.heap.size w w' := by
  have H := hideD (hollow_any b n c w hn hz)
  generalize decide (c 0 < 1) = q at *
  clear hz
  go_enter Try.func8, Try.ntmps8
  go_wp2_with fail
  refine H.out.mono ?_
  rintro e w' ⟨rfl, hb⟩
  go_wp2_with fail
  go_ret
  exact ⟨rfl, hb⟩
/-- The sum of two cells of a closed row is not below the third. -/
theorem add_ge {n m : Nat} {p : Mat} {c : Row} (h : Full n m p c) (hm : m = (n + 1) * (n + 1)) {i j k : Nat} (hi : i ≤ n) (hj : j ≤ n) (hk : k ≤ n) :
    ((sumE [c (i * (n + 1) + k), c (k * (n + 1) + j)] == 0) && decide (sumB [c (i * (n + 1) + k), c (k * (n + 1) + j)] < c (i * (n + 1) + j))) = false := by
  have ho := opn_val
  rw [h.at hm i k hi hk, h.at hm k j hk hj, h.at hm i j hi hj]
  have t := h.tri k (by omega) i j hi hj
  have ok1 := h.ok hm i k hi hk
  have ok2 := h.ok hm k j hk hj
  have ok3 := h.ok hm i j hi hj
  have r3 : narB (p i j) ≤ 2147483647 := (narB_range _).2
  have pc := pl_cases (p i k) (p k j)
  generalize p i k = a at *
  generalize p k j = b at *
  generalize p i j = d at *
  have bad : sBad [narB a, narB b] = false := by simp [sBad, narB_right]
  by_cases qa : a = opn
  · have sI1 : sI [narB a, narB b] = true := by simp [sI, (cell_opn qa).1, (cell_opn qa).2]
    have : ¬ sumB [narB a, narB b] < narB d := by unfold sumB; rw [bad, sI1]; simp; omega
    simp [this]
  · by_cases qb : b = opn
    · have sI1 : sI [narB a, narB b] = true := by simp [sI, (cell_opn qb).1, (cell_opn qb).2]
      have : ¬ sumB [narB a, narB b] < narB d := by unfold sumB; rw [bad, sI1]; simp; omega
      simp [this]
    · have ca := cell_fin qa ok1
      have cb := cell_fin qb ok2
      have sI1 : sI [narB a, narB b] = false := by simp [sI, ca.1, ca.2.1, cb.1, cb.2.1]
      have sT1 : sT [narB a, narB b] = a / 2 + b / 2 := by
        show wrap64 (wrap64 (0 + valV (narB a)) + valV (narB b)) = _
        rw [ca.1, cb.1, ca.2.2.1, cb.2.2.1]
        unfold wrap64
        omega
      have sR1 : sR [narB a, narB b] = (decide (a % 2 = 1) && decide (b % 2 = 1)) := by
        show ((true && valR (narB a)) && valR (narB b)) = _
        rw [ca.1, cb.1, ca.2.2.2.1, cb.2.2.2.1, Bool.true_and]
      have s1 : sumB [narB a, narB b] = ofB (a / 2 + b / 2) (decide (a % 2 = 1) && decide (b % 2 = 1)) := by unfold sumB; rw [bad, sI1, sT1, sR1]; rfl
      have s2 : sumE [narB a, narB b] = ofE (a / 2 + b / 2) := by unfold sumE; rw [bad, sI1, sT1]; rfl
      rw [s1, s2]
      unfold ofB ofE
      by_cases q : a / 2 + b / 2 < -268435456 ∨ 268435456 < a / 2 + b / 2
      · rw [if_pos q, if_pos q]
        rfl
      · rw [if_neg q, if_neg q]
        have qd : ¬ d = opn := by omega
        rw [(cell_fin qd ok3).1]
        have : ¬ (if (decide (a % 2 = 1) && decide (b % 2 = 1)) = true then 2 * (a / 2 + b / 2) + 1 else 2 * (a / 2 + b / 2)) < d := by
          simp only [Bool.and_eq_true, decide_eq_true_eq]
          split <;> omega
        simp only [this, decide_false, Bool.and_false]
/-- Where a cell of a zone that is not empty is above a cell of another. -/
theorem above_fin {n m : Nat} {p q : Mat} {c d : Row} (h : Full n m p c) (h' : Full n m q d) (hm : m = (n + 1) * (n + 1)) {i j : Nat} (hi : i ≤ n) (hj : j ≤ n) (hlt : d (i * (n + 1) + j) < c (i * (n + 1) + j)) :
    ¬ i = j ∧ -536870912 ≤ d (i * (n + 1) + j) ∧ d (i * (n + 1) + j) ≤ 536870913 := by
  rw [h.at hm i j hi hj, h'.at hm i j hi hj] at hlt
  rw [h'.at hm i j hi hj]
  have r := (narB_range (p i j)).2
  refine ⟨fun e => ?_, ?_⟩
  · subst e
    rw [h.one i hi, h'.one i hi] at hlt
    omega
  · by_cases k : q i j = opn
    · rw [(cell_opn k).1] at hlt
      omega
    · have := cell_fin k (h'.ok hm i j hi hj)
      rw [this.1]
      omega
end Go.Proofs.Ytmnckhchpbdfjaa
