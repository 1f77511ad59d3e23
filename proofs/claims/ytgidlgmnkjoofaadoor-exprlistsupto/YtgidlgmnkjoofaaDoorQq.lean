/-
  gnomonmem.HandNodes: a copy with marked room behind its end; gnomonmem.KeptNodes.
-/
import Derived.Test.YtgidlgmnkjoofaaDoorQg
import Derived.Deep.OwnRows
namespace Go.Proofs.YtgidlgmnkjoofaaDoor
open Go.RowKit Go.Shelf
set_option linter.unusedVariables false
/-- A list of nodes. -/
structure NdsL where
  q : Nat
  n : Nat → Int
  d : Nat → Int
/-- They lie in memory, two cells each, behind a slice's address. -/
def NdsV (w : World) (ad : Option Addr) (L : NdsL) : Prop := ∀ k, k < L.q → ∃ b off, ad = some ⟨b, off, none⟩ ∧ w.cell? ⟨b, off + k * 2, none⟩ = some (.int .u8 (L.n k)) ∧ w.cell? ⟨b, off + k * 2 + 1, none⟩ = some (.int .i64 (L.d k))
theorem NdsV.later {w w' : World} {ad : Option Addr} {L : NdsL} (h : NdsV w ad L) (hb : Below w.heap.size w w') : NdsV w' ad L := fun k hk => by
  obtain ⟨b, off, e, c1, c2⟩ := h k hk
  exact ⟨b, off, e, kc _ _ hb c1, kc _ _ hb c2⟩
/-- With the marked room behind its end. -/
def roomy (L : NdsL) : NdsL := ⟨L.q + 9, fun k => if k < L.q then L.n k else 0, fun k => if k < L.q then L.d k else -700 - ((k - L.q : Nat) : Int)⟩
def cvR (L : NdsL) (j : Nat) : Value := if j % 2 = 0 then .int .u8 (L.n (j / 2)) else .int .i64 (L.d (j / 2))
def fillR (L : NdsL) (K j : Nat) : Value := if j < K * 2 then cvR L j else if j % 2 = 0 then .int .u8 0 else .int .i64 0
theorem fill_next (L : NdsL) (K j : Nat) : fillR L (K + 1) j = if j = K * 2 + 1 then .int .i64 (L.d K) else if j = K * 2 then .int .u8 (L.n K) else fillR L K j := by
  unfold fillR cvR
  by_cases c : j = K * 2 + 1
  · subst c
    rw [if_pos rfl, if_pos (by omega), if_neg (by omega), show (K * 2 + 1) / 2 = K by omega]
  · rw [if_neg c]
    by_cases e : j = K * 2
    · subst e
      rw [if_pos rfl, if_pos (by omega), if_pos (by omega), show K * 2 / 2 = K by omega]
    · rw [if_neg e]
      by_cases l : j < K * 2
      · rw [if_pos l, if_pos (by omega)]
      · rw [if_neg l, if_neg (by omega)]
theorem fill_row {L : NdsL} {w : World} {g : Nat} (h : ∀ j, j < L.q * 2 → w.cell? ⟨g, j, none⟩ = some (fillR L L.q j)) : NdsV w (some ⟨g, 0, none⟩) L := fun k hk => by
  have h0 := h (k * 2) (by omega)
  have h1 := h (k * 2 + 1) (by omega)
  unfold fillR cvR at h0 h1
  rw [if_pos (by omega), if_pos (by omega), show k * 2 / 2 = k by omega] at h0
  rw [if_pos (by omega), if_neg (by omega), show (k * 2 + 1) / 2 = k by omega] at h1
  exact ⟨g, 0, rfl, by rw [Nat.zero_add]; exact h0, by rw [Nat.zero_add]; exact h1⟩
theorem info_nd : (Tryd.prog.info? 54).map (fun i => (i.zero, i.size, i.bytes)) = some (some (.agg #[.int .u8 0, .int .i64 0]), 2, 16) := by kernel_rfl
theorem make_nds (N : Nat) (hb : 16 * N ≤ 281474976710656) (w : World) :
    (Instr.makeSlice 23 (.int .i64 (N : Int)) (.int .i64 (N : Int))).run Tryd.prog w = .ok (.slice (some ⟨w.heap.size, 0, none⟩) N N) (w.alloc (.cells (madeCells #[.int .u8 0, .int .i64 0] (N * 2)) 54)) := by
  obtain ⟨i, hi, hzz⟩ := Option.map_eq_some_iff.1 info_nd
  simp only [Prod.mk.injEq] at hzz
  obtain ⟨hz, hs, hb'⟩ := hzz
  have hB : (i.bytes : Int) * (N : Int) ≤ 281474976710656 := by rw [hb']; omega
  have hr := run_make (P := Tryd.prog) w 23 54 i _ Tryd.underlying23 hi hz .i64 .i64 N N (by omega) (Int.le_refl _) hB (by omega)
  simp only [Int.toNat_natCast, hs] at hr
  exact hr
theorem made_fill (L : NdsL) (N : Nat) (w : World) (T : TypeId) : ∀ j, j < N * 2 → (w.alloc (.cells (madeCells #[.int .u8 0, .int .i64 0] (N * 2)) T)).cell? ⟨w.heap.size, j, none⟩ = some (fillR L 0 j) := fun j hj => by
  rw [World.cell?_alloc_at _ _ _ _ rfl]
  have : j % 2 = 0 ∨ j % 2 = 1 := by omega
  rcases this with h | h <;> simp [madeCells, hj, fillR, h]
/-- A store of the next one. -/
theorem fill_set {w : World} {g N K : Nat} {L : NdsL} (hK : K < N) (h : ∀ j, j < N * 2 → w.cell? ⟨g, j, none⟩ = some (fillR L K j)) :
    ∀ j, j < N * 2 → ((w.setCell ⟨g, K * 2, none⟩ (.int .u8 (L.n K))).setCell ⟨g, K * 2 + 1, none⟩ (.int .i64 (L.d K))).cell? ⟨g, j, none⟩ = some (fillR L (K + 1) j) := fun j hj => by
  rw [fill_next]
  have h1 : (w.setCell ⟨g, K * 2, none⟩ (.int .u8 (L.n K))).cell? ⟨g, K * 2 + 1, none⟩ = some (fillR L K (K * 2 + 1)) := by
    rw [World.cell?_setCell_other _ _ _ _ (by intro e; injection e; omega)]
    exact h _ (by omega)
  by_cases c : j = K * 2 + 1
  · subst c
    rw [World.cell?_setCell_same _ _ _ h1, if_pos rfl]
  · rw [World.cell?_setCell_other _ _ _ _ (by intro e; injection e; omega), if_neg c]
    by_cases e : j = K * 2
    · subst e
      rw [World.cell?_setCell_same _ _ _ (h _ hj), if_pos rfl]
    · rw [World.cell?_setCell_other _ _ _ _ (by intro e; injection e; omega), if_neg e]
      exact h j hj
set_option maxRecDepth 100000 in
set_option maxHeartbeats 4000000 in
theorem hand_nodes (ad : Option Addr) (cap : Nat) (L : NdsL) (w : World) (hR : NdsV w ad L) (hq : L.q * 16 ≤ 140737488355328) :
    Calls Tryd.prog 4 #[.slice ad L.q cap] w fun e w' => e = .returned (.slice (some ⟨w.heap.size, 0, none⟩) L.q (L.q + 9)) ∧ NdsV w' (some ⟨w.heap.size, 0, none⟩) (roomy L) ∧ w.heap.size < w'.heap.size ∧ Below w.heap.size w w' := by
  have hmk := make_nds (L.q + 9) (by omega)
  have HR := hideR hR
  have E1 : Hid (∀ k, k < L.q → (roomy L).n k = L.n k ∧ (roomy L).d k = L.d k) := fun k hk => by simp [roomy, hk]
  have E2 : Hid (∀ k, L.q ≤ k → (roomy L).n k = 0 ∧ (roomy L).d k = -700 - ((k - L.q : Nat) : Int)) := fun k hk => by simp [roomy, Nat.not_lt.2 hk]
  have E3 : Hid ((roomy L).q = L.q + 9) := rfl
  have F0 := hideR (made_fill (roomy L) (L.q + 9) w 54)
  clear hR
  generalize hm : L.q = m at *
  have HM := hideR hm
  clear hm
  have e0 : IntKind.i64.wrap ((m : Int) + 9) = ((m + 9 : Nat) : Int) := by rw [IntKind.wrap_i64]; omega
  generalize hN : m + 9 = N at *
  have HN := hideR hN
  clear hN
  have m1 : (m : Int) ≤ 9223372036854775807 := by omega
  go_enter Tryd.func4, Tryd.ntmps4
  go_wp2_with fail
  have Z0 : Hid (∀ j, (w.alloc (.cells (madeCells #[.int .u8 0, .int .i64 0] (N * 2)) 54)).frozen? ⟨w.heap.size, j, none⟩ = false) := fun j => by simp [go_sem]
  have B0 := hideR (single w (.cells (madeCells #[.int .u8 0, .int .i64 0] (N * 2)) 54))
  have S0 : Hid (w.heap.size < (w.alloc (.cells (madeCells #[.int .u8 0, .int .i64 0] (N * 2)) 54)).heap.size) := by show _ < _; simp
  generalize w.alloc (.cells (madeCells #[.int .u8 0, .int .i64 0] (N * 2)) 54) = W at *
  clear hmk
  go_loopw [4] (fun s wr => ∃ (K : Nat), K ≤ m ∧ s = .int .i64 K ∧ Hid (∀ j, j < N * 2 → wr.cell? ⟨w.heap.size, j, none⟩ = some (fillR (roomy L) K j)) ∧ Hid (∀ j, wr.frozen? ⟨w.heap.size, j, none⟩ = false) ∧ Hid (w.heap.size < wr.heap.size) ∧ Hid (Below w.heap.size w wr)) (fun s _ => m - (intOf s).toNat)
  case atStart => exact ⟨0, by omega, rfl, F0, Z0, S0, B0⟩
  case round =>
    obtain ⟨K, hK, rfl, F, Z, Sz, B⟩ := hrel
    clear F0 Z0 B0 S0
    by_cases ck : K < m
    · obtain ⟨b, off, rfl, c1', c2'⟩ := HR.out K (by rw [HM.out]; exact ck)
      have c1 := kc _ _ B.out c1'
      have c2 := kc _ _ B.out c2'
      clear c1' c2'
      have kN : K < N := by have := HN.out; omega
      have FN := hideR (fill_set kN F.out)
      obtain ⟨x0, x1⟩ := E1.out K ck
      rw [x0, x1] at FN
      have z0 := Z.out (K * 2)
      have z1 := Z.out (K * 2 + 1)
      have y0 := F.out (K * 2) (by omega)
      have y1 := F.out (K * 2 + 1) (by omega)
      generalize L.n K = x at *
      generalize L.d K = y at *
      have ZN : Hid (∀ j, ((wr.setCell ⟨w.heap.size, K * 2, none⟩ (.int .u8 x)).setCell ⟨w.heap.size, K * 2 + 1, none⟩ (.int .i64 y)).frozen? ⟨w.heap.size, j, none⟩ = false) := fun j => by
        rw [World.frozen?_setCell, World.frozen?_setCell]
        exact Z.out j
      have BN : Hid (Below w.heap.size w ((wr.setCell ⟨w.heap.size, K * 2, none⟩ (.int .u8 x)).setCell ⟨w.heap.size, K * 2 + 1, none⟩ (.int .i64 y))) := Below.setCell (p := ⟨w.heap.size, K * 2 + 1, none⟩) (Below.setCell (p := ⟨w.heap.size, K * 2, none⟩) B.out (Nat.le_refl _) _) (Nat.le_refl _) _
      have SN : Hid (w.heap.size < ((wr.setCell ⟨w.heap.size, K * 2, none⟩ (.int .u8 x)).setCell ⟨w.heap.size, K * 2 + 1, none⟩ (.int .i64 y)).heap.size) := by
        show _ < _
        have := Sz.out
        simpa [World.setCell] using this
      have k0 : (0 : Int) ≤ (K : Int) := by omega
      have k1 : (K : Int) < (m : Int) := by omega
      have k2 : (K : Int) < (N : Int) := by omega
      clear F Z Sz B
      go_wp2_with fail
      go_roundw
      case rel => exact ⟨K + 1, by omega, by go_num, FN, ZN, SN, BN⟩
      case measure => simp [intOf]; omega
    · have e : K = m := by omega
      subst e
      have k1 : decide ((K : Int) < (K : Int)) = false := by simp
      go_wp2_with fail
      go_loopw [5] (fun s wr => ∃ (J : Nat), K ≤ J ∧ J ≤ N ∧ s = .int .i64 J ∧ Hid (∀ j, j < N * 2 → wr.cell? ⟨w.heap.size, j, none⟩ = some (fillR (roomy L) J j)) ∧ Hid (∀ j, wr.frozen? ⟨w.heap.size, j, none⟩ = false) ∧ Hid (w.heap.size < wr.heap.size) ∧ Hid (Below w.heap.size w wr)) (fun s _ => N - (intOf s).toNat)
      case atStart => exact ⟨K, by omega, by have := HN.out; omega, rfl, F, Z, Sz, B⟩
      case round =>
        obtain ⟨J, hJ, hJN, rfl, F', Z', S', B'⟩ := hrel
        clear F Z Sz B
        by_cases cj : J < N
        · have FN := hideR (fill_set cj F'.out)
          obtain ⟨x0, x1⟩ := E2.out J hJ
          rw [x0, x1] at FN
          have z0 := Z'.out (J * 2)
          have z1 := Z'.out (J * 2 + 1)
          have y0 := F'.out (J * 2) (by omega)
          have y1 := F'.out (J * 2 + 1) (by omega)
          have e1 : IntKind.i64.wrap (-700 - (J : Int)) = -700 - (J : Int) := by rw [IntKind.wrap_i64]; have := HN.out; omega
          have e2 : IntKind.i64.wrap (-700 - (J : Int) + (K : Int)) = -700 - ((J - K : Nat) : Int) := by rw [IntKind.wrap_i64]; have := HN.out; omega
          have e3 : IntKind.i64.wrap (-700 - ((J - K : Nat) : Int)) = -700 - ((J - K : Nat) : Int) := by rw [IntKind.wrap_i64]; have := HN.out; omega
          generalize -700 - ((J - K : Nat) : Int) = x at *
          have ZN : Hid (∀ j, ((wr.setCell ⟨w.heap.size, J * 2, none⟩ (.int .u8 0)).setCell ⟨w.heap.size, J * 2 + 1, none⟩ (.int .i64 x)).frozen? ⟨w.heap.size, j, none⟩ = false) := fun j => by
            rw [World.frozen?_setCell, World.frozen?_setCell]
            exact Z'.out j
          have BN : Hid (Below w.heap.size w ((wr.setCell ⟨w.heap.size, J * 2, none⟩ (.int .u8 0)).setCell ⟨w.heap.size, J * 2 + 1, none⟩ (.int .i64 x))) := Below.setCell (p := ⟨w.heap.size, J * 2 + 1, none⟩) (Below.setCell (p := ⟨w.heap.size, J * 2, none⟩) B'.out (Nat.le_refl _) _) (Nat.le_refl _) _
          have SN : Hid (w.heap.size < ((wr.setCell ⟨w.heap.size, J * 2, none⟩ (.int .u8 0)).setCell ⟨w.heap.size, J * 2 + 1, none⟩ (.int .i64 x)).heap.size) := by
            show _ < _
            have := S'.out
            simpa [World.setCell] using this
          have k0 : (0 : Int) ≤ (J : Int) := by omega
          have k2 : (J : Int) < (N : Int) := by omega
          have k5 : (J : Int) ≤ 9000000000000000000 := by have := HN.out; omega
          clear F' Z' S' B'
          go_wp2_with fail
          go_roundw
          case rel => exact ⟨J + 1, by omega, by omega, by go_num, FN, ZN, SN, BN⟩
          case measure => simp [intOf]; omega
        · have e : J = N := by omega
          subst e
          have k2 : decide ((J : Int) < (J : Int)) = false := by simp
          have k3 : (0 : Int) ≤ (K : Int) := by omega
          have k4 : (K : Int) ≤ (J : Int) := by omega
          have RR : NdsV wr (some ⟨w.heap.size, 0, none⟩) (roomy L) := fill_row (by rw [E3.out]; exact F'.out)
          go_wp2_with fail
          go_ret
          exact ⟨rfl, RR, S'.out, B'.out⟩
theorem roomy_of {w : World} {ad : Option Addr} {L : NdsL} (h : NdsV w ad (roomy L)) : NdsV w ad L := fun k hk => by
  obtain ⟨b, off, e, c1, c2⟩ := h k (by show k < L.q + 9; omega)
  simp only [roomy, hk, if_true] at c1 c2
  exact ⟨b, off, e, c1, c2⟩
set_option maxRecDepth 100000 in
set_option maxHeartbeats 4000000 in
theorem same_nds (ad ad' : Option Addr) (cap cap' : Nat) (L : NdsL) (w : World) (hV : NdsV w ad L) (hV' : NdsV w ad' L) (hq : L.q ≤ 9223372036854775807) :
    Calls Tryd.prog 8 #[.slice ad L.q cap, .slice ad' L.q cap'] w fun e w' => e = .returned (.bool true) ∧ Below w.heap.size w w' := by
  have HV := hideR hV
  have HV' := hideR hV'
  clear hV hV'
  generalize hm : L.q = m at *
  have HM := hideR hm
  clear hm
  have m0 : ((m : Int) == (m : Int)) = true := by simp
  have B0 := hideR (Below.refl w.heap.size w)
  go_enter Tryd.func8, Tryd.ntmps8
  go_wp2_with fail
  go_loopw [5] (fun s wr => ∃ (J : Nat), J ≤ m ∧ s = .int .i64 J ∧ Hid (Below w.heap.size w wr)) (fun s _ => m - (intOf s).toNat)
  case atStart => exact ⟨0, by omega, rfl, B0⟩
  case round =>
    obtain ⟨J, hJ, rfl, B⟩ := hrel
    clear B0
    by_cases cj : J < m
    · obtain ⟨b, off, rfl, d1, d2⟩ := HV.out J (by rw [HM.out]; exact cj)
      obtain ⟨b', off', rfl, f1, f2⟩ := HV'.out J (by rw [HM.out]; exact cj)
      have c1 := kc _ _ B.out d1
      have c2 := kc _ _ B.out d2
      have g1 := kc _ _ B.out f1
      have g2 := kc _ _ B.out f2
      have k0 : (0 : Int) ≤ (J : Int) := by omega
      have k1 : (J : Int) < (m : Int) := by omega
      clear d1 d2 f1 f2
      generalize L.n J = u at *
      generalize L.d J = v at *
      go_wp2_with fail
      go_quiet (fail)
      go_wp2_with fail
      go_roundw
      case rel => exact ⟨J + 1, by omega, by go_num, hideR (by first | exact B.out | exact Below.drew B.out | exact below_drewN B.out _)⟩
      case measure => simp [intOf]; omega
    · have e : J = m := by omega
      subst e
      have k1 : decide ((J : Int) < (J : Int)) = false := by simp
      go_wp2_with fail
      go_ret
      exact ⟨rfl, B.out⟩
set_option maxRecDepth 100000 in
set_option maxHeartbeats 4000000 in
theorem kept_nds (g : Nat) (ad : Option Addr) (cap : Nat) (L : NdsL) (w : World) (hV : NdsV w (some ⟨g, 0, none⟩) (roomy L)) (hV' : NdsV w ad L) (hq : L.q * 16 ≤ 140737488355328) :
    Calls Tryd.prog 15 #[.slice (some ⟨g, 0, none⟩) L.q (L.q + 9), .slice ad L.q cap] w fun e w' => e = .returned (.bool true) ∧ Below w.heap.size w w' := by
  have HS : Hid (∀ w', Below w.heap.size w w' → Calls Tryd.prog 8 #[.slice (some ⟨g, 0, none⟩) L.q (L.q + 9), .slice ad L.q cap] w' fun e w'' => e = .returned (.bool true) ∧ Below w'.heap.size w' w'') := hideR fun w' hb => same_nds _ _ _ _ L w' (roomy_of (hV.later hb)) (hV'.later hb) (by omega)
  have HV : Hid (∀ k, L.q ≤ k → k < L.q + 9 → w.cell? ⟨g, k * 2, none⟩ = some (.int .u8 0) ∧ w.cell? ⟨g, k * 2 + 1, none⟩ = some (.int .i64 (-700 - ((k - L.q : Nat) : Int)))) := fun k h1 h2 => by
    obtain ⟨b, off, e, c1, c2⟩ := hV k h2
    injection e with e
    injection e with e1 e2
    subst e1
    subst e2
    simp only [roomy, Nat.not_lt.2 h1, if_false, Nat.zero_add] at c1 c2
    exact ⟨c1, c2⟩
  clear hV hV'
  generalize hm : L.q = m at *
  have e0 : IntKind.i64.wrap ((m : Int) + 9) = ((m + 9 : Nat) : Int) := by rw [IntKind.wrap_i64]; omega
  generalize hN : m + 9 = N at *
  have HN := hideR hN
  have m1 : (0 : Int) ≤ (N : Int) := by omega
  clear hN hm
  go_enter Tryd.func15, Tryd.ntmps15
  go_wp2_with fail
  refine (HS.out _ (Below.refl _ _)).mono ?_
  rintro e w1 ⟨rfl, hb⟩
  have HB := hideR hb
  clear hb HS
  go_wp2_with fail
  go_loopw [6] (fun s wr => ∃ (J : Nat), m ≤ J ∧ J ≤ N ∧ s = .int .i64 J ∧ Hid (Below w.heap.size w wr)) (fun s _ => N - (intOf s).toNat)
  case atStart => exact ⟨m, by omega, by have := HN.out; omega, rfl, HB⟩
  case round =>
    obtain ⟨J, hJ, hJN, rfl, B⟩ := hrel
    clear HB
    by_cases cj : J < N
    · obtain ⟨d1, d2⟩ := HV.out J hJ cj
      have c1 := kc _ _ B.out d1
      have c2 := kc _ _ B.out d2
      have k0 : (0 : Int) ≤ (J : Int) := by omega
      have k1 : (J : Int) < (N : Int) := by omega
      have k5 : (J : Int) ≤ 9000000000000000000 := by have := HN.out; omega
      have e1 : IntKind.i64.wrap (-700 - (J : Int)) = -700 - (J : Int) := by rw [IntKind.wrap_i64]; have := HN.out; omega
      have e2 : IntKind.i64.wrap (-700 - (J : Int) + (m : Int)) = -700 - ((J - m : Nat) : Int) := by rw [IntKind.wrap_i64]; have := HN.out; omega
      have e3 : IntKind.i64.wrap (-700 - ((J - m : Nat) : Int)) = -700 - ((J - m : Nat) : Int) := by rw [IntKind.wrap_i64]; have := HN.out; omega
      clear d1 d2
      generalize -700 - ((J - m : Nat) : Int) = x at *
      go_wp2_with fail
      go_roundw
      case rel => exact ⟨J + 1, by omega, by omega, by go_num, B⟩
      case measure => simp [intOf]; omega
    · have e : J = N := by omega
      subst e
      have k1 : decide ((J : Int) < (J : Int)) = false := by simp
      go_wp2_with fail
      go_ret
      exact ⟨rfl, B.out⟩
/-- A list of nodes as such a list. -/
def ndsOf (l : List Node) : NdsL := ⟨l.length, fun k => ((l.getD k (0, 0)).1 : Int), fun k => (l.getD k (0, 0)).2⟩
theorem nds_row {w : World} {ad : Option Addr} {l : List Node} (h : RowV w ad (l.flatMap NodeC)) : NdsV w ad (ndsOf l) := fun k hk => by
  have hk' : k < l.length := hk
  obtain ⟨b, off, e, x0, x1⟩ := nodes_at h hk'
  have g : l.getD k (0, 0) = l[k]'hk' := by simp [List.getD_eq_getElem?_getD, hk']
  refine ⟨b, off, e, ?_, ?_⟩
  · show _ = some (Value.int .u8 ((l.getD k (0, 0)).1 : Int))
    rw [g]; exact x0
  · show _ = some (Value.int .i64 (l.getD k (0, 0)).2)
    rw [g]; exact x1
theorem row_nds {w : World} {ad : Option Addr} {l : List Node} (h : NdsV w ad (ndsOf l)) : RowV w ad (l.flatMap NodeC) := fun j u q => by
  have hj : j < l.length * 2 := by
    have := (List.getElem?_eq_some_iff.1 q).1
    rwa [flat_len NodeC 2 (fun _ => rfl)] at this
  have hk : j / 2 < l.length := by omega
  obtain ⟨b, off, e, x0, x1⟩ := h (j / 2) hk
  have g : l.getD (j / 2) (0, 0) = l[j / 2]'hk := by simp [List.getD_eq_getElem?_getD, hk]
  have at_ := flat_at NodeC 2 (fun _ => rfl) l (j / 2) hk (j % 2) (Nat.mod_lt _ (by decide))
  rw [show j / 2 * 2 + j % 2 = j by omega, q] at at_
  refine ⟨b, off, e, ?_⟩
  have : j % 2 = 0 ∨ j % 2 = 1 := by omega
  rcases this with c | c
  · rw [c] at at_
    have x0' : w.cell? ⟨b, off + j / 2 * 2, none⟩ = some (.int .u8 ((l.getD (j / 2) (0, 0)).1 : Int)) := x0
    rw [g] at x0'
    rw [show off + j = off + j / 2 * 2 by omega, x0', at_]
    rfl
  · rw [c] at at_
    have x1' : w.cell? ⟨b, off + j / 2 * 2 + 1, none⟩ = some (.int .i64 (l.getD (j / 2) (0, 0)).2) := x1
    rw [g] at x1'
    rw [show off + j = off + j / 2 * 2 + 1 by omega, x1', at_]
    rfl
end Go.Proofs.YtgidlgmnkjoofaaDoor
