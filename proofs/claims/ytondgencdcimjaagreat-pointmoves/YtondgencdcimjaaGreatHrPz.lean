/-
  gnomonmem.HandRats and KeptRats.
-/
import Derived.Test.YtondgencdcimjaaGreatPl0z
import Derived.Deep.OwnRows
namespace Go.Proofs.YtondgencdcimjaaGreat
open Go.RowKit Go.Shelf
set_option linter.unusedVariables false
set_option maxRecDepth 100000
/-- With the marked room behind its end. -/
def roomy (L : Rats) : Rats := ⟨L.q + 9, fun k => if k < L.q then L.n k else -700 - ((k - L.q : Nat) : Int), fun k => if k < L.q then L.d k else 77⟩
def cvR (L : Rats) (j : Nat) : Value := .int .i64 (if j % 2 = 0 then L.n (j / 2) else L.d (j / 2))
def fillR (L : Rats) (K j : Nat) : Value := if j < K * 2 then cvR L j else .int .i64 0
theorem fill_next (L : Rats) (K j : Nat) : fillR L (K + 1) j = if j = K * 2 + 1 then .int .i64 (L.d K) else if j = K * 2 then .int .i64 (L.n K) else fillR L K j := by
  unfold fillR cvR
  by_cases c : j = K * 2 + 1
  · subst c
    rw [if_pos rfl, if_pos (by omega), if_neg (by omega), show (K * 2 + 1) / 2 = K by omega]
  · rw [if_neg c]
    by_cases e : j = K * 2
    · subst e
      rw [if_pos rfl, if_pos (by omega), if_pos (by omega), show K * 2 / 2 = K by omega]
    · rw [if_neg e]
      by_cases l : j < K * 2
      · rw [if_pos l, if_pos (by omega)]
      · rw [if_neg l, if_neg (by omega)]
theorem fill_row {L : Rats} {w : World} {g : Nat} (h : ∀ j, j < L.q * 2 → w.cell? ⟨g, j, none⟩ = some (fillR L L.q j)) : RatV w (some ⟨g, 0, none⟩) L := fun k hk => by
  have h0 := h (k * 2) (by omega)
  have h1 := h (k * 2 + 1) (by omega)
  unfold fillR cvR at h0 h1
  rw [if_pos (by omega), if_pos (by omega), show k * 2 / 2 = k by omega] at h0
  rw [if_pos (by omega), if_neg (by omega), show (k * 2 + 1) / 2 = k by omega] at h1
  exact ⟨g, 0, rfl, by rw [Nat.zero_add]; exact h0, by rw [Nat.zero_add]; exact h1⟩
theorem make_rats (N : Nat) (hb : 16 * N ≤ 281474976710656) (w : World) :
    (Instr.makeSlice 22 (.int .i64 (N : Int)) (.int .i64 (N : Int))).run Tryz.prog w = .ok (.slice (some ⟨w.heap.size, 0, none⟩) N N) (w.alloc (.cells (madeCells #[.int .i64 0, .int .i64 0] (N * 2)) 24)) := by
  obtain ⟨i, hi, hzz⟩ := Option.map_eq_some_iff.1 info_rat
  simp only [Prod.mk.injEq] at hzz
  obtain ⟨hz, hs, hb'⟩ := hzz
  have hB : (i.bytes : Int) * (N : Int) ≤ 281474976710656 := by rw [hb']; omega
  have hr := run_make (P := Tryz.prog) w 22 24 i _ Tryz.underlying22 hi hz .i64 .i64 N N (by omega) (Int.le_refl _) hB (by omega)
  simp only [Int.toNat_natCast, hs] at hr
  exact hr
theorem made_fill (L : Rats) (N : Nat) (w : World) (T : TypeId) : ∀ j, j < N * 2 → (w.alloc (.cells (madeCells #[.int .i64 0, .int .i64 0] (N * 2)) T)).cell? ⟨w.heap.size, j, none⟩ = some (fillR L 0 j) := fun j hj => by
  rw [World.cell?_alloc_at _ _ _ _ rfl]
  have : j % 2 = 0 ∨ j % 2 = 1 := by omega
  rcases this with h | h <;> simp [madeCells, hj, fillR, h]
/-- A store of the next one. -/
theorem fill_set {w : World} {g N K : Nat} {L : Rats} (hK : K < N) (h : ∀ j, j < N * 2 → w.cell? ⟨g, j, none⟩ = some (fillR L K j)) :
    ∀ j, j < N * 2 → ((w.setCell ⟨g, K * 2, none⟩ (.int .i64 (L.n K))).setCell ⟨g, K * 2 + 1, none⟩ (.int .i64 (L.d K))).cell? ⟨g, j, none⟩ = some (fillR L (K + 1) j) := fun j hj => by
  rw [fill_next]
  have h1 : (w.setCell ⟨g, K * 2, none⟩ (.int .i64 (L.n K))).cell? ⟨g, K * 2 + 1, none⟩ = some (fillR L K (K * 2 + 1)) := by
    rw [World.cell?_setCell_other _ _ _ _ (by intro e; injection e; omega)]
    exact h _ (by omega)
  by_cases c : j = K * 2 + 1
  · subst c
    rw [World.cell?_setCell_same _ _ _ h1, if_pos rfl]
  · rw [World.cell?_setCell_other _ _ _ _ (by intro e; injection e; omega), if_neg c]
    by_cases e : j = K * 2
    · subst e
      rw [World.cell?_setCell_same _ _ _ (h _ hj), if_pos rfl]
    · rw [World.cell?_setCell_other _ _ _ _ (by intro e; injection e; omega), if_neg e]
      exact h j hj
set_option maxRecDepth 100000 in
set_option maxHeartbeats 4000000 in
theorem hand_any (ad : Option Addr) (cap : Nat) (L : Rats) (w : World) (hR : RatV w ad L) (hq : L.q * 16 ≤ 140737488355328) :
    Calls Tryz.prog 6 #[.slice ad L.q cap] w fun e w' => e = .returned (.slice (some ⟨w.heap.size, 0, none⟩) L.q (L.q + 9)) ∧ RatV w' (some ⟨w.heap.size, 0, none⟩) (roomy L) ∧ w.heap.size < w'.heap.size ∧ Below w.heap.size w w' := by
  have hmk := make_rats (L.q + 9) (by omega)
  have HR := hideR hR
  have E1 : Hid (∀ k, k < L.q → (roomy L).n k = L.n k ∧ (roomy L).d k = L.d k) := fun k hk => by simp [roomy, hk]
  have E2 : Hid (∀ k, L.q ≤ k → (roomy L).n k = -700 - ((k - L.q : Nat) : Int) ∧ (roomy L).d k = 77) := fun k hk => by simp [roomy, Nat.not_lt.2 hk]
  have E3 : Hid ((roomy L).q = L.q + 9) := rfl
  have F0 := hideR (made_fill (roomy L) (L.q + 9) w 24)
  clear hR
  generalize hm : L.q = m at *
  have HM := hideR hm
  clear hm
  have e0 : IntKind.i64.wrap ((m : Int) + 9) = ((m + 9 : Nat) : Int) := by rw [IntKind.wrap_i64]; omega
  generalize hN : m + 9 = N at *
  have HN := hideR hN
  clear hN
  have m1 : (m : Int) ≤ 9223372036854775807 := by omega
  go_enter Tryz.func6, Tryz.ntmps6
  go_wp2_with fail
  have Z0 : Hid (∀ j, (w.alloc (.cells (madeCells #[.int .i64 0, .int .i64 0] (N * 2)) 24)).frozen? ⟨w.heap.size, j, none⟩ = false) := fun j => by simp [go_sem]
  have B0 := hideR (single w (.cells (madeCells #[.int .i64 0, .int .i64 0] (N * 2)) 24))
  have S0 : Hid (w.heap.size < (w.alloc (.cells (madeCells #[.int .i64 0, .int .i64 0] (N * 2)) 24)).heap.size) := by show _ < _; simp
  generalize w.alloc (.cells (madeCells #[.int .i64 0, .int .i64 0] (N * 2)) 24) = W at *
  clear hmk
  go_loopw [4] (fun s wr => ∃ (K : Nat), K ≤ m ∧ s = .int .i64 K ∧ Hid (∀ j, j < N * 2 → wr.cell? ⟨w.heap.size, j, none⟩ = some (fillR (roomy L) K j)) ∧ Hid (∀ j, wr.frozen? ⟨w.heap.size, j, none⟩ = false) ∧ Hid (w.heap.size < wr.heap.size) ∧ Hid (Below w.heap.size w wr)) (fun s _ => m - (intOf s).toNat)
  case atStart => exact ⟨0, by omega, rfl, F0, Z0, S0, B0⟩
  case round =>
    obtain ⟨K, hK, rfl, F, Z, Sz, B⟩ := hrel
    clear F0 Z0 B0 S0
    by_cases ck : K < m
    · obtain ⟨b, off, rfl, c1', c2'⟩ := HR.out K (by rw [HM.out]; exact ck)
      have c1 := kc _ _ B.out c1'
      have c2 := kc _ _ B.out c2'
      clear c1' c2'
      have kN : K < N := by have := HN.out; omega
      have FN := hideR (fill_set kN F.out)
      obtain ⟨x0, x1⟩ := E1.out K ck
      rw [x0, x1] at FN
      have z0 := Z.out (K * 2)
      have z1 := Z.out (K * 2 + 1)
      have y0 := F.out (K * 2) (by omega)
      have y1 := F.out (K * 2 + 1) (by omega)
      generalize L.n K = x at *
      generalize L.d K = y at *
      have ZN : Hid (∀ j, ((wr.setCell ⟨w.heap.size, K * 2, none⟩ (.int .i64 x)).setCell ⟨w.heap.size, K * 2 + 1, none⟩ (.int .i64 y)).frozen? ⟨w.heap.size, j, none⟩ = false) := fun j => by
        rw [World.frozen?_setCell, World.frozen?_setCell]
        exact Z.out j
      have BN : Hid (Below w.heap.size w ((wr.setCell ⟨w.heap.size, K * 2, none⟩ (.int .i64 x)).setCell ⟨w.heap.size, K * 2 + 1, none⟩ (.int .i64 y))) := Below.setCell (p := ⟨w.heap.size, K * 2 + 1, none⟩) (Below.setCell (p := ⟨w.heap.size, K * 2, none⟩) B.out (Nat.le_refl _) _) (Nat.le_refl _) _
      have SN : Hid (w.heap.size < ((wr.setCell ⟨w.heap.size, K * 2, none⟩ (.int .i64 x)).setCell ⟨w.heap.size, K * 2 + 1, none⟩ (.int .i64 y)).heap.size) := by
        show _ < _
        have := Sz.out
        simpa [World.setCell] using this
      have k0 : (0 : Int) ≤ (K : Int) := by omega
      have k1 : (K : Int) < (m : Int) := by omega
      have k2 : (K : Int) < (N : Int) := by omega
      clear F Z Sz B
      go_wp2_with fail
      go_roundw
      case rel => exact ⟨K + 1, by omega, by go_num, FN, ZN, SN, BN⟩
      case measure => simp [intOf]; omega
    · have e : K = m := by omega
      subst e
      have k1 : decide ((K : Int) < (K : Int)) = false := by simp
      go_wp2_with fail
      go_loopw [5] (fun s wr => ∃ (J : Nat), K ≤ J ∧ J ≤ N ∧ s = .int .i64 J ∧ Hid (∀ j, j < N * 2 → wr.cell? ⟨w.heap.size, j, none⟩ = some (fillR (roomy L) J j)) ∧ Hid (∀ j, wr.frozen? ⟨w.heap.size, j, none⟩ = false) ∧ Hid (w.heap.size < wr.heap.size) ∧ Hid (Below w.heap.size w wr)) (fun s _ => N - (intOf s).toNat)
      case atStart => exact ⟨K, by omega, by have := HN.out; omega, rfl, F, Z, Sz, B⟩
      case round =>
        obtain ⟨J, hJ, hJN, rfl, F', Z', S', B'⟩ := hrel
        clear F Z Sz B
        by_cases cj : J < N
        · have FN := hideR (fill_set cj F'.out)
          obtain ⟨x0, x1⟩ := E2.out J hJ
          rw [x0, x1] at FN
          have z0 := Z'.out (J * 2)
          have z1 := Z'.out (J * 2 + 1)
          have y0 := F'.out (J * 2) (by omega)
          have y1 := F'.out (J * 2 + 1) (by omega)
          have e1 : IntKind.i64.wrap (-700 - (J : Int)) = -700 - (J : Int) := by rw [IntKind.wrap_i64]; have := HN.out; omega
          have e2 : IntKind.i64.wrap (-700 - (J : Int) + (K : Int)) = -700 - ((J - K : Nat) : Int) := by rw [IntKind.wrap_i64]; have := HN.out; omega
          have e3 : IntKind.i64.wrap (-700 - ((J - K : Nat) : Int)) = -700 - ((J - K : Nat) : Int) := by rw [IntKind.wrap_i64]; have := HN.out; omega
          generalize -700 - ((J - K : Nat) : Int) = x at *
          have ZN : Hid (∀ j, ((wr.setCell ⟨w.heap.size, J * 2, none⟩ (.int .i64 x)).setCell ⟨w.heap.size, J * 2 + 1, none⟩ (.int .i64 77)).frozen? ⟨w.heap.size, j, none⟩ = false) := fun j => by
            rw [World.frozen?_setCell, World.frozen?_setCell]
            exact Z'.out j
          have BN : Hid (Below w.heap.size w ((wr.setCell ⟨w.heap.size, J * 2, none⟩ (.int .i64 x)).setCell ⟨w.heap.size, J * 2 + 1, none⟩ (.int .i64 77))) := Below.setCell (p := ⟨w.heap.size, J * 2 + 1, none⟩) (Below.setCell (p := ⟨w.heap.size, J * 2, none⟩) B'.out (Nat.le_refl _) _) (Nat.le_refl _) _
          have SN : Hid (w.heap.size < ((wr.setCell ⟨w.heap.size, J * 2, none⟩ (.int .i64 x)).setCell ⟨w.heap.size, J * 2 + 1, none⟩ (.int .i64 77)).heap.size) := by
            show _ < _
            have := S'.out
            simpa [World.setCell] using this
          have k0 : (0 : Int) ≤ (J : Int) := by omega
          have k2 : (J : Int) < (N : Int) := by omega
          have k5 : (J : Int) ≤ 9000000000000000000 := by have := HN.out; omega
          clear F' Z' S' B'
          go_wp2_with fail
          go_roundw
          case rel => exact ⟨J + 1, by omega, by omega, by go_num, FN, ZN, SN, BN⟩
          case measure => simp [intOf]; omega
        · have e : J = N := by omega
          subst e
          have k2 : decide ((J : Int) < (J : Int)) = false := by simp
          have k3 : (0 : Int) ≤ (K : Int) := by omega
          have k4 : (K : Int) ≤ (J : Int) := by omega
          have RR : RatV wr (some ⟨w.heap.size, 0, none⟩) (roomy L) := fill_row (by rw [E3.out]; exact F'.out)
          go_wp2_with fail
          go_ret
          exact ⟨rfl, RR, S'.out, B'.out⟩
theorem roomy_of {w : World} {ad : Option Addr} {L : Rats} (h : RatV w ad (roomy L)) : RatV w ad L := fun k hk => by
  obtain ⟨b, off, e, c1, c2⟩ := h k (by show k < L.q + 9; omega)
  simp only [roomy, hk, if_true] at c1 c2
  exact ⟨b, off, e, c1, c2⟩
set_option maxRecDepth 100000 in
set_option maxHeartbeats 4000000 in
theorem kept_rats (g : Nat) (ad : Option Addr) (cap : Nat) (L : Rats) (w : World) (hV : RatV w (some ⟨g, 0, none⟩) (roomy L)) (hV' : RatV w ad L) (hq : L.q * 16 ≤ 140737488355328) :
    Calls Tryz.prog 16 #[.slice (some ⟨g, 0, none⟩) L.q (L.q + 9), .slice ad L.q cap] w fun e w' => e = .returned (.bool true) ∧ Below w.heap.size w w' := by
  have HS : Hid (∀ w', Below w.heap.size w w' → Calls Tryz.prog 15 #[.slice (some ⟨g, 0, none⟩) L.q (L.q + 9), .slice ad L.q cap] w' fun e w'' => e = .returned (.bool true) ∧ Below w'.heap.size w' w'') := hideR fun w' hb => same_rats _ _ _ _ L w' (roomy_of (hV.later hb)) (hV'.later hb) (by omega)
  have HV : Hid (∀ k, L.q ≤ k → k < L.q + 9 → w.cell? ⟨g, k * 2, none⟩ = some (.int .i64 (-700 - ((k - L.q : Nat) : Int))) ∧ w.cell? ⟨g, k * 2 + 1, none⟩ = some (.int .i64 77)) := fun k h1 h2 => by
    obtain ⟨b, off, e, c1, c2⟩ := hV k h2
    injection e with e
    injection e with e1 e2
    subst e1
    subst e2
    simp only [roomy, Nat.not_lt.2 h1, if_false, Nat.zero_add] at c1 c2
    exact ⟨c1, c2⟩
  clear hV hV'
  generalize hm : L.q = m at *
  have e0 : IntKind.i64.wrap ((m : Int) + 9) = ((m + 9 : Nat) : Int) := by rw [IntKind.wrap_i64]; omega
  generalize hN : m + 9 = N at *
  have HN := hideR hN
  have m1 : (0 : Int) ≤ (N : Int) := by omega
  clear hN hm
  go_enter Tryz.func16, Tryz.ntmps16
  go_wp2_with fail
  refine (HS.out _ (Below.refl _ _)).mono ?_
  rintro e w1 ⟨rfl, hb⟩
  have HB := hideR hb
  clear hb HS
  go_wp2_with fail
  go_loopw [6] (fun s wr => ∃ (J : Nat), m ≤ J ∧ J ≤ N ∧ s = .int .i64 J ∧ Hid (Below w.heap.size w wr)) (fun s _ => N - (intOf s).toNat)
  case atStart => exact ⟨m, by omega, by have := HN.out; omega, rfl, HB⟩
  case round =>
    obtain ⟨J, hJ, hJN, rfl, B⟩ := hrel
    clear HB
    by_cases cj : J < N
    · obtain ⟨d1, d2⟩ := HV.out J hJ cj
      have c1 := kc _ _ B.out d1
      have c2 := kc _ _ B.out d2
      have k0 : (0 : Int) ≤ (J : Int) := by omega
      have k1 : (J : Int) < (N : Int) := by omega
      have k5 : (J : Int) ≤ 9000000000000000000 := by have := HN.out; omega
      have e1 : IntKind.i64.wrap (-700 - (J : Int)) = -700 - (J : Int) := by rw [IntKind.wrap_i64]; have := HN.out; omega
      have e2 : IntKind.i64.wrap (-700 - (J : Int) + (m : Int)) = -700 - ((J - m : Nat) : Int) := by rw [IntKind.wrap_i64]; have := HN.out; omega
      have e3 : IntKind.i64.wrap (-700 - ((J - m : Nat) : Int)) = -700 - ((J - m : Nat) : Int) := by rw [IntKind.wrap_i64]; have := HN.out; omega
      clear d1 d2
      generalize -700 - ((J - m : Nat) : Int) = x at *
      go_wp2_with fail
      go_roundw
      case rel => exact ⟨J + 1, by omega, by omega, by go_num, B⟩
      case measure => simp [intOf]; omega
    · have e : J = N := by omega
      subst e
      have k1 : decide ((J : Int) < (J : Int)) = false := by simp
      go_wp2_with fail
      go_ret
      exact ⟨rfl, B.out⟩
end Go.Proofs.YtondgencdcimjaaGreat
