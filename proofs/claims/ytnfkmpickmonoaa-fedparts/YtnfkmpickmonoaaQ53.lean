/-
  fed: towards FedParts: Of with its error, Meets, what Meet and Minus tell of one zone.
-/
import Derived.Test.YtnfkmpickmonoaaQ52
namespace Go.Proofs.Ytnfkmpickmonoaa
open Go.RowKit Go.Shelf
set_option linter.unusedVariables false
set_option maxRecDepth 100000
attribute [local go_sem] Oper.semAt_some
theorem two_of7b (n : Int) (v : Value) (l : List Int) (w : World) (hS : SliceAt w v l) (hi : ∀ j, j < l.length → -2147483648 ≤ l.getD j 0 ∧ l.getD j 0 ≤ 2147483647) (hby : l.length ≤ 9223372036854775807) :
    ∃ k o, SayP7 w 7 #[.int .i64 n, v] k o ∧ SayR7 w 8 #[.int .i64 n, v] k o ∧ ZCo7 o ∧ (∀ N c, o = some (N, c) → n = (N : Int)) ∧ (k = 0 → o ≠ none) := by
  have err : ∀ k, k ≠ 0 → (∀ w', Below w.heap.size w w' → Calls Try.prog 7 #[.int .i64 n, v] w' fun x w'' => x = errOf k ∧ Below w'.heap.size w' w'') → (∀ w', Below w.heap.size w w' → Calls Try.prog 8 #[.int .i64 n, v] w' fun x w'' => x = errOf k ∧ Below w'.heap.size w' w'') →
      ∃ k o, SayP7 w 7 #[.int .i64 n, v] k o ∧ SayR7 w 8 #[.int .i64 n, v] k o ∧ ZCo7 o ∧ (∀ N c, o = some (N, c) → n = (N : Int)) ∧ (k = 0 → o ≠ none) := fun k hk h1 h2 =>
    ⟨k, none, fun w' hb => (h1 w' hb).mono fun e w'' ⟨he, hb'⟩ => ⟨⟨none, he, rfl⟩, hb'⟩, fun w' hb => (h2 w' hb).mono fun e w'' ⟨he, hb'⟩ => ⟨⟨none, he, rfl⟩, hb'⟩, zco_none7, fun N c h => (by cases h), fun h => absurd h hk⟩
  by_cases hn : 0 ≤ n ∧ n ≤ 8
  · obtain ⟨N, rfl⟩ := Int.eq_ofNat_of_zero_le hn.1
    have N8 : N ≤ 8 := by omega
    have mp : 0 < (N + 1) * (N + 1) := Nat.mul_pos (by omega) (by omega)
    by_cases hl : l.length = (N + 1) * (N + 1)
    · rcases hS with ⟨ad, c, rfl, rfl⟩ | ⟨cb, off, cap, rfl, hc⟩
      · exfalso
        simp at hl
      · have hcb : cb < w.heap.size := World.block_lt_of_cell? _ _ (hc 0 (by omega))
        have row : ∀ w', Below w.heap.size w w' → RowAt w' cb off l := fun w' hb j hj => (hb.cell (p := ⟨cb, off + j, none⟩) hcb).trans (hc j hj)
        have P := fun w' hb => of_main N cb off cap l w' N8 hl (row w' hb) hi
        have R := fun w' hb => rof_main N cb off cap l w' N8 hl (row w' hb) hi
        cases ha : allRight l l.length
        · refine err 7 (by decide) (fun w' hb => (P w' hb).mono fun x w'' h => ?_) (fun w' hb => (R w' hb).mono fun x w'' h => ?_)
          · obtain ⟨h1, ⟨-, h2⟩ | ⟨h2, -⟩⟩ := h
            · exact ⟨h2, h1⟩
            · rw [ha] at h2; cases h2
          · obtain ⟨h1, ⟨-, h2⟩ | ⟨h2, -⟩⟩ := h
            · exact ⟨h2, h1⟩
            · rw [ha] at h2; cases h2
        · have os := of_same N l hl (fun j hj => (hi j (by omega)).2)
          cases hz : zoneR N (tgAll N l l.length (startR N (N + 1) 0)) with
          | none =>
            rw [hz] at os
            refine err 10 (by decide) (fun w' hb => (P w' hb).mono fun x w'' h => ?_) (fun w' hb => (R w' hb).mono fun x w'' h => ?_)
            · obtain ⟨h1, ⟨h2, -⟩ | ⟨-, h2⟩⟩ := h
              · rw [ha] at h2; cases h2
              · rw [hz] at h2; exact ⟨h2, h1⟩
            · obtain ⟨h1, ⟨h2, -⟩ | ⟨-, h2⟩⟩ := h
              · rw [ha] at h2; cases h2
              · rw [os] at h2; exact ⟨h2, h1⟩
          | some c =>
            rw [hz] at os
            refine ⟨0, some (N, c), fun w' hb => (P w' hb).mono fun x w'' h => ?_, fun w' hb => (R w' hb).mono fun x w'' h => ?_, fun N' c' h => ?_, fun N' c' h => ?_, fun _ h => (by cases h)⟩
            · obtain ⟨h1, ⟨h2, -⟩ | ⟨-, h2⟩⟩ := h
              · rw [ha] at h2; cases h2
              · rw [hz] at h2
                obtain ⟨b, -, h3, h4⟩ := h2
                exact ⟨⟨_, h3, N8, zoneR_32 hz, b, rfl, h4⟩, h1⟩
            · obtain ⟨h1, ⟨h2, -⟩ | ⟨-, h2⟩⟩ := h
              · rw [ha] at h2; cases h2
              · rw [os] at h2
                obtain ⟨b, h3, h4⟩ := h2
                exact ⟨⟨_, h3, N8, b, _, rfl, h4⟩, h1⟩
            · cases h
              rw [hl] at hz ha
              exact zc_drf N8 rfl (right_of_all7 ha) hz
            · cases h
              rfl
    · obtain ⟨ad, cap, rfl⟩ : ∃ ad cap, v = .slice ad l.length cap := by
        rcases hS with ⟨ad, c, rfl, rfl⟩ | ⟨cb, off, cap, rfl, hc⟩
        · exact ⟨ad, c, rfl⟩
        · exact ⟨_, cap, rfl⟩
      exact err 6 (by decide) (fun w' hb => of_long N l.length cap ad w' N8 hl hby) (fun w' hb => same_w7 (rof_long N l.length cap _ ad w' N8 rfl hl))
  · exact err 12 (by decide) (fun w' hb => same_w7 (of_clock n v w' hn)) (fun w' hb => same_w7 (rof_clock n v w' hn))
theorem zmeets_zc {w : World} {b o n m : Nat} {c d : Row} (hz : ZoneAt w b n c) (hy : ZoneAt w o n d) (hn : n ≤ 8) (hm : m = (n + 1) * (n + 1)) (zc : ZC n m c) (zd : ZC n m d) :
    Calls Try.prog 22 #[.pointer (some ⟨b, 0, none⟩), .pointer (some ⟨o, 0, none⟩)] w fun e w' => e = .returned (.bool (metB n m c d)) ∧ Below w.heap.size w w' :=
  meets_any b o n m c d w hz hy hn hm (zc_made hn hm zc).range (zc_made hn hm zd).range
theorem zinc_zc {w : World} {b o n m : Nat} {c d : Row} (hz : ZoneAt w b n c) (hy : ZoneAt w o n d) (hn : n ≤ 8) (hm : m = (n + 1) * (n + 1)) (d0 : ¬ d 0 < 1) (le : ∀ k, k < m → d k ≤ c k) :
    Calls Try.prog 24 #[.pointer (some ⟨b, 0, none⟩), .pointer (some ⟨o, 0, none⟩)] w fun e w' => e = .returned (.bool true) ∧ Below w.heap.size w w' := by
  have h := includes_some b o n c d w hz hy hn (decide_eq_false d0)
  rw [← hm, (nless_iff c d m).2 le] at h
  exact h
theorem met_full1 {n m : Nat} {c d : Row} (hn : n ≤ 8) (hm : m = (n + 1) * (n + 1)) (hc : ZC n m c) (hd : ZC n m d) (h : metB n m c d = true) : ¬ c 0 < 1 := fun h0 => by
  rw [metB_meets hn hm hc hd] at h
  have mp := zlen7 hm
  have z : zoneR n (tgAll n (listOf (minR c d) m) m (startR n (n + 1) 0)) = some (fun _ => 0) := by
    refine zone_hollow ?_
    have e := drf_at n m (listOf (minR c d) m) hm 0 0 (by omega) (by omega)
    rw [show 0 * (n + 1) + 0 = 0 by omega, listOf_get _ _ _ mp] at e
    show drf n m (listOf (minR c d) m) 0 0 < 1
    rw [e]
    unfold tgV minR
    split <;> omega
  rw [z] at h
  exact absurd h (by decide)
/-- The zones of the union of one zone. -/
def oneU (c : Row) : List Row := if c 0 < 1 then [] else [c]
theorem newL_one (b : Nat) (c : Row) : newL [some (b, c)] = (oneU c, 0) := by
  show layS ([], 0) (some c, 0) = _
  unfold oneU
  by_cases h : c 0 < 1 <;> simp [layS, h]
theorem parts_one {n m : Nat} {c d : Row} (hn : n ≤ 8) (hm : m = (n + 1) * (n + 1)) (zc : ZC n m c) (zd : ZC n m d) : PartsOk n m c d (minusL n m (oneU c) d) := by
  unfold oneU
  by_cases h : c 0 < 1
  · rw [if_pos h]
    exact ⟨.inl rfl, Nat.zero_le _, fun r hr => (by cases hr), List.Pairwise.nil⟩
  · rw [if_neg h]
    exact parts_ok hn hm zc zd h
theorem meet_one {n m : Nat} {c d : Row} (hn : n ≤ 8) (hm : m = (n + 1) * (n + 1)) (zc : ZC n m c) (zd : ZC n m d) (h0 : (meetL n m (oneU c) d).2 = 0) : decide ((meetL n m (oneU c) d).1.length = 0) = !metB n m c d := by
  unfold oneU at *
  by_cases h : c 0 < 1
  · rw [if_pos h]
    have : metB n m c d = false := by
      cases q : metB n m c d with
      | false => rfl
      | true => exact absurd h (met_full1 hn hm zc zd q)
    rw [this]
    rfl
  · rw [if_neg h] at h0 ⊢
    rw [metB_meets hn hm zc zd]
    have e : meetL n m [c] d = layS ([], 0) (comY n m c d) := rfl
    rw [e] at h0 ⊢
    unfold comY at h0 ⊢
    show _ = !meetsOf (zoneR n (drf n m (listOf (minR c d) m)))
    cases ho : zoneR n (drf n m (listOf (minR c d) m)) with
    | none =>
      rw [ho] at h0
      exact absurd h0 (by decide)
    | some o =>
      have zo := com_zc hn hm zc zd ho
      show decide ((layS ([], 0) (some o, 0)).1.length = 0) = !(!(o 0 != 1))
      rcases zc01' hm zo with q | q <;> simp [layS, q]
end Go.Proofs.Ytnfkmpickmonoaa
