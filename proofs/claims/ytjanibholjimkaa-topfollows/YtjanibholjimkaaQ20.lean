/-
  The contracts of ops: zone once more, Up, Down, free, limit.
-/
import Derived.Test.YtjanibholjimkaaQ18
namespace Go.Proofs.Ytjanibholjimkaa
open Go.RowKit
set_option linter.unusedVariables false
set_option maxRecDepth 100000
/-- What zone tells of a draft. -/
def OpsOut (w' : World) (B n : Nat) (e : Ending) (r : Mat) : Prop :=
  (allRight (rowsL n r (n + 1)) ((n + 1) * (n + 1)) = false ∧ e = errOf 7) ∨ (allRight (rowsL n r (n + 1)) ((n + 1) * (n + 1)) = true ∧ ZoneOut w' B n e (zoneR n (tgAll n (rowsL n r (n + 1)) ((n + 1) * (n + 1)) (startR n (n + 1) 0))))
def R32 (r : Mat) : Prop := ∀ i j, -2147483648 ≤ r i j ∧ r i j ≤ 2147483647
def C32 (c : Row) : Prop := ∀ k, -2147483648 ≤ c k ∧ c k ≤ 2147483647
theorem oR_32 {n K : Nat} {c : Row} (h : C32 c) : R32 (oR n c K) := fun i j => by
  unfold oR
  split
  · exact h _
  · omega
theorem R32.upd {r : Mat} (h : R32 r) {i j : Nat} {v : Int} (h0 : -2147483648 ≤ v) (h1 : v ≤ 2147483647) : R32 (upd r i j v) := fun a c => by
  unfold Go.Proofs.Ytjanibholjimkaa.upd
  split
  · exact ⟨h0, h1⟩
  · exact h a c
theorem OpsOut.form {w' : World} {B n : Nat} {e : Ending} {r : Mat} (h : OpsOut w' B n e r) : ∃ p k, e = .returned (.tuple #[.pointer p, .int .i64 k]) := by
  rcases h with ⟨-, rfl⟩ | ⟨-, h⟩
  · exact ⟨_, _, rfl⟩
  · cases ez : zoneR n (tgAll n (rowsL n r (n + 1)) ((n + 1) * (n + 1)) (startR n (n + 1) 0)) with
    | none => rw [ez] at h; exact ⟨_, _, h⟩
    | some c =>
      rw [ez] at h
      obtain ⟨b', -, h, -⟩ := h
      exact ⟨_, _, h⟩
theorem ozone_out (b n B : Nat) (r : Mat) (w : World) (h : n ≤ 8) (hD : ODraft w b n r) (hi : R32 r) (hB : B ≤ w.heap.size) :
    Calls Try.prog 27 #[.pointer (some ⟨b, 0, none⟩)] w fun e w' => ∃ p k, e = .returned (.tuple #[.pointer p, .int .i64 k]) ∧ Hid (OpsOut w' B n (.returned (.tuple #[.pointer p, .int .i64 k])) r) ∧ Hid (Below w.heap.size w w') := by
  refine (ozone_any b n r w h hD hi).mono ?_
  intro e w' ⟨hb, ho⟩
  have ho' : OpsOut w' B n e r := by
    rcases ho with h1 | ⟨h1, h2⟩
    · exact .inl h1
    · refine .inr ⟨h1, ?_⟩
      cases ez : zoneR n (tgAll n (rowsL n r (n + 1)) ((n + 1) * (n + 1)) (startR n (n + 1) 0)) with
      | none => rw [ez] at h2; exact h2
      | some c =>
        rw [ez] at h2
        obtain ⟨b', q, h3, h4⟩ := h2
        exact ⟨b', Nat.le_trans hB q, h3, h4⟩
  obtain ⟨p, k, rfl⟩ := ho'.form
  exact ⟨p, k, rfl, ho', hb⟩
/-- Column 0 without bounds, up to row K. -/
def upM (K : Nat) (r : Mat) : Mat := fun i j => if j = 0 ∧ 1 ≤ i ∧ i < K then 2147483647 else r i j
theorem upM_next (K : Nat) (hK : 1 ≤ K) (r : Mat) : upd (upM K r) K 0 2147483647 = upM (K + 1) r := by
  funext a c
  unfold upd upM
  by_cases e : a = K ∧ c = 0
  · rw [if_pos e, if_pos (by omega)]
  · rw [if_neg e]
    congr 1
    apply propext
    omega
theorem upM_zero (r : Mat) : upM 1 r = r := by
  funext a c
  unfold upM
  rw [if_neg (by omega)]
theorem upM_32 {K : Nat} {r : Mat} (h : R32 r) : R32 (upM K r) := fun i j => by
  unfold upM
  split
  · omega
  · exact h i j
set_option maxHeartbeats 2000000 in
theorem oup_any (b n : Nat) (c : Row) (w : World) (h : n ≤ 8) (hz : ZoneAt w b n c) (hc : C32 c) :
    Calls Try.prog 9 #[.pointer (some ⟨b, 0, none⟩)] w fun e w' => OpsOut w' w.heap.size n e (upM (n + 1) (oR n c ((n + 1) * (n + 1)))) ∧ Below w.heap.size w w' := by
  have HD := hideD (odraft_any b n c w h hz)
  have H32 := hideD (oR_32 (n := n) (K := (n + 1) * (n + 1)) hc)
  generalize oR n c ((n + 1) * (n + 1)) = r at *
  clear hz hc
  go_enter Try.func9, Try.ntmps9
  go_wp2_with fail
  refine HD.out.mono ?_
  rintro e w1 ⟨⟨d, rfl, hd, hD⟩, hb⟩
  rw [← upM_zero r] at hD
  have hD1 := hideD hD
  have hB1 := hideD hb
  clear hD hb HD
  go_wp2_with fail
  go_loopw [5] (fun s wr => ∃ (K : Nat), 1 ≤ K ∧ K ≤ n + 1 ∧ s = .int .i64 (K : Int) ∧ Hid (ODraft wr d n (upM K r)) ∧ Hid (Below w.heap.size w wr)) (fun s _ => n + 1 - (intOf s).toNat)
  case atStart => exact ⟨1, by omega, by omega, rfl, hD1, hB1⟩
  case round =>
    obtain ⟨K, hK1, hK, rfl, hD, hB⟩ := hrel
    clear hD1 hB1
    have q0 := hD.out.clocks
    by_cases ck : K ≤ n
    · have q1 := hD.out.cell K 0 (by omega) (by omega)
      have q2 := hD.out.free K 0 (by omega) (by omega)
      have q1' : wr.cell? ⟨d, 1 + K * 9, none⟩ = _ := q1
      have q2' : wr.frozen? ⟨d, 1 + K * 9, none⟩ = false := q2
      have hD2 := hideD (hD.out.set (i := K) (j := 0) (by omega) (by omega) 2147483647)
      rw [upM_next K hK1] at hD2
      have hB2 := hideD (hB.out.setCell (p := at9 d K 0) hd (.int .i32 2147483647))
      have y2 : (K : Int) < 9 := by omega
      clear hD hB
      go_wp2_with fail
      go_roundw
      case rel => exact ⟨K + 1, by omega, by omega, by go_num, hD2, hB2⟩
      case measure => simp [intOf]; omega
    · have eK : K = n + 1 := by omega
      have HZ := hideD (ozone_out d n w.heap.size (upM (n + 1) r) wr h (by rw [← eK]; exact hD.out) (upM_32 H32.out) hB.out.size)
      go_wp2_with fail
      refine HZ.out.mono ?_
      rintro e w2 ⟨p, k, rfl, ho, hb⟩
      go_wp2_with fail
      exact bodyPost_ret (v := .tuple #[.pointer p, .int .i64 k]) (by simp [results, Try.results9, go_sem]) rfl ⟨ho.out, beyondD hB.out hb.out⟩
end Go.Proofs.Ytjanibholjimkaa
