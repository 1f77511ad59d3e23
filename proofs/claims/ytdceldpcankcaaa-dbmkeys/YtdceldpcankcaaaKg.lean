/-
  The walk of the statement DbmKeys for every input.
-/
import Derived.Test.YtdceldpcankcaaaKf
namespace Go.Proofs.Ytdceldpcankcaaa
open Go.RowKit
set_option linter.unusedVariables false
set_option maxRecDepth 100000
theorem narB_range (x : Int) : -2147483648 ≤ narB x ∧ narB x ≤ 2147483647 := by
  unfold narB
  split
  · omega
  · split <;> omega
theorem zoneR_range (n : Nat) (r : Mat) (c : Row) (h : zoneR n r = some c) (j : Nat) : (-2147483648 ≤ c j ∧ c j ≤ 2147483647) ∧ ((n + 1) * (n + 1) ≤ j → c j = 0) := by
  unfold zoneR at h
  split at h
  · cases h
    exact ⟨⟨by show (-2147483648 : Int) ≤ 0; omega, by show (0 : Int) ≤ 2147483647; omega⟩, fun _ => rfl⟩
  · split at h
    · cases h
      unfold cellsUpto
      split
      · exact ⟨narB_range _, fun q => by omega⟩
      · exact ⟨by omega, fun _ => rfl⟩
    · cases h
/-- What dbm.Of says of a number and a row, in whatever later world: an error, or a zone with these cells. -/
def OfSays (w : World) (n : Int) (v : Value) : Option Row → Prop
  | none => ∃ e : Int, (e != 0) = true ∧ ∀ w', Below w.heap.size w w' → Calls Try.prog 4 #[.int .i64 n, v] w' fun x w'' => x = errOf e ∧ Below w'.heap.size w' w''
  | some c => ∃ N : Nat, n = N ∧ N ≤ 8 ∧ (∀ j, (-2147483648 ≤ c j ∧ c j ≤ 2147483647) ∧ ((N + 1) * (N + 1) ≤ j → c j = 0)) ∧ ∀ w', Below w.heap.size w w' → Calls Try.prog 4 #[.int .i64 n, v] w' fun x w'' => Below w'.heap.size w' w'' ∧ ZoneOut w'' w'.heap.size N x (some c)
theorem of_says (n : Int) (v : Value) (l : List Int) (w : World) (hS : SliceAt w v l) (hi : ∀ j, j < l.length → -2147483648 ≤ l.getD j 0 ∧ l.getD j 0 ≤ 2147483647) (hby : l.length ≤ 9223372036854775807) : ∃ o, OfSays w n v o := by
  by_cases hn : 0 ≤ n ∧ n ≤ 8
  · obtain ⟨N, rfl⟩ := Int.eq_ofNat_of_zero_le hn.1
    have N8 : N ≤ 8 := by omega
    have mp : 0 < (N + 1) * (N + 1) := Nat.mul_pos (by omega) (by omega)
    by_cases hl : l.length = (N + 1) * (N + 1)
    · rcases hS with ⟨ad, c, rfl, rfl⟩ | ⟨cb, off, cap, rfl, hc⟩
      · exfalso
        simp at hl
      · have hcb : cb < w.heap.size := World.block_lt_of_cell? _ _ (hc 0 (by omega))
        have row : ∀ w', Below w.heap.size w w' → RowAt w' cb off l := fun w' hb j hj => (hb.cell (p := ⟨cb, off + j, none⟩) hcb).trans (hc j hj)
        have P := fun w' hb => of_main N cb off cap l w' N8 hl (row w' hb) hi
        cases ha : allRight l l.length
        · refine ⟨none, 7, rfl, fun w' hb => (P w' hb).mono fun x w'' h => ?_⟩
          obtain ⟨h1, ⟨-, h2⟩ | ⟨h2, -⟩⟩ := h
          · exact ⟨h2, h1⟩
          · rw [ha] at h2; cases h2
        · cases hz : zoneR N (tgAll N l l.length (startR N (N + 1) 0)) with
          | none =>
            refine ⟨none, 10, rfl, fun w' hb => (P w' hb).mono fun x w'' h => ?_⟩
            obtain ⟨h1, ⟨h2, -⟩ | ⟨-, h2⟩⟩ := h
            · rw [ha] at h2; cases h2
            · rw [hz] at h2; exact ⟨h2, h1⟩
          | some c =>
            refine ⟨some c, N, rfl, N8, zoneR_range N _ c hz, fun w' hb => (P w' hb).mono fun x w'' h => ?_⟩
            obtain ⟨h1, ⟨h2, -⟩ | ⟨-, h2⟩⟩ := h
            · rw [ha] at h2; cases h2
            · rw [hz] at h2; exact ⟨h1, h2⟩
    · obtain ⟨ad, cap, rfl⟩ : ∃ ad cap, v = .slice ad l.length cap := by
        rcases hS with ⟨ad, c, rfl, rfl⟩ | ⟨cb, off, cap, rfl, hc⟩
        · exact ⟨ad, c, rfl⟩
        · exact ⟨_, cap, rfl⟩
      exact ⟨none, 6, rfl, fun w' hb => of_long N l.length cap ad w' N8 hl hby⟩
  · exact ⟨none, 12, rfl, fun w' hb => (of_clock n v w' hn).mono fun x w'' ⟨hx, hw⟩ => ⟨hx, by rw [hw]; exact Below.refl _ _⟩⟩
namespace dbmKeys
set_option maxHeartbeats 4000000 in
theorem walk (n : Int) (hn : (Lit.int .i64 n).wf = true) (v : Value) (l : List Int) (v' : Value) (l' : List Int) (w : World) (hS : SliceAt w v l) (wf : ∀ z ∈ l, (Lit.int .i32 z).wf = true) (hby : l.length * 4 ≤ 140737488355328) (hnil : ∀ {c}, v = .slice none 0 c → c = 0) (hS' : SliceAt w v' l') (wf' : ∀ z ∈ l', (Lit.int .i32 z).wf = true) (hby' : l'.length * 4 ≤ 140737488355328) (hnil' : ∀ {c}, v' = .slice none 0 c → c = 0) :
    Calls Try.prog 3 #[.int .i64 n, v, v'] w fun e w' => e = .returned (.bool true) ∧ Below w.heap.size w w' := by
  obtain ⟨o, ho⟩ := of_says n v l w hS (wf_list wf) (by omega)
  obtain ⟨o', ho'⟩ := of_says n v' l' w hS' (wf_list wf') (by omega)
  clear hS wf hby hnil hS' wf' hby' hnil' hn
  have B0 : Below w.heap.size w w := Below.refl _ _
  cases o with
  | none =>
    obtain ⟨e, e0, H⟩ := ho
    have H1 := hideD (H w B0)
    clear H B0
    cases o' with
    | none =>
      obtain ⟨e', e0', H'⟩ := ho'
      have H2 := hideD H'
      clear H'
      go_enter Try.func3, Try.ntmps3
      go_wp2_with fail
      refine H1.out.mono ?_
      rintro x w1 ⟨rfl, hb1⟩
      have H3 := hideD (H2.out _ hb1)
      have B1 := hideD hb1
      clear H1 H2 hb1
      go_wp2_with fail
      refine H3.out.mono ?_
      rintro x w2 ⟨rfl, hb2⟩
      have B2 := hideD (beyondD B1.out hb2)
      clear H3 hb2 B1
      go_wp2_with fail
      refine (live_any _).mono ?_
      rintro x w3 ⟨rfl, hb3⟩
      go_wp2_with fail
      go_ret
      exact ⟨rfl, beyondD B2.out hb3⟩
    | some d =>
      obtain ⟨N, rfl, N8, hr, H'⟩ := ho'
      have H2 := hideD H'
      clear H' hr
      go_enter Try.func3, Try.ntmps3
      go_wp2_with fail
      refine H1.out.mono ?_
      rintro x w1 ⟨rfl, hb1⟩
      have H3 := hideD (H2.out _ hb1)
      have B1 := hideD hb1
      clear H1 H2 hb1
      go_wp2_with fail
      refine H3.out.mono ?_
      rintro x w2 ⟨hb2, b, lb, rfl, hz⟩
      have B2 := hideD (beyondD B1.out hb2)
      clear H3 hb2 B1 hz
      go_wp2_with fail
      refine (live_any _).mono ?_
      rintro x w3 ⟨rfl, hb3⟩
      go_wp2_with fail
      go_ret
      exact ⟨rfl, beyondD B2.out hb3⟩
  | some c =>
    obtain ⟨N, rfl, N8, hr, H⟩ := ho
    have H1 := hideD (H w B0)
    clear H B0
    cases o' with
    | none =>
      obtain ⟨e', e0', H'⟩ := ho'
      have H2 := hideD H'
      clear H' hr
      go_enter Try.func3, Try.ntmps3
      go_wp2_with fail
      refine H1.out.mono ?_
      rintro x w1 ⟨hb1, b, lb, rfl, hz⟩
      have H3 := hideD (H2.out _ hb1)
      have B1 := hideD hb1
      clear H1 H2 hb1 hz
      go_wp2_with fail
      refine H3.out.mono ?_
      rintro x w2 ⟨rfl, hb2⟩
      have B2 := hideD (beyondD B1.out hb2)
      clear H3 hb2 B1
      go_wp2_with fail
      refine (live_any _).mono ?_
      rintro x w3 ⟨rfl, hb3⟩
      go_wp2_with fail
      go_ret
      exact ⟨rfl, beyondD B2.out hb3⟩
    | some d =>
      obtain ⟨N', e, N8', hr', H'⟩ := ho'
      have e' : N' = N := by omega
      subst e'
      exact keys_walk N' _ v v' c d w N8 rfl (fun j hj => ⟨(hr j).1, (hr' j).1⟩) (fun j hj => by rw [(hr j).2 hj, (hr' j).2 hj]) H1 (hideD H')
end dbmKeys
end Go.Proofs.Ytdceldpcankcaaa
