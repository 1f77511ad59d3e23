/-
  gnomonmem.HandLimits: a copy with marked room behind its end; SameLimits, KeptLimits.
-/
import Derived.Test.YtfffcmelkdmjaaaDoorZd
import Derived.Deep.OwnRows
import Derived.Test.YtfffcmelkdmjaaaDoorZf
import Derived.Test.YtfffcmelkdmjaaaDoorWtz
namespace Go.Proofs.YtfffcmelkdmjaaaDoor
open Go.RowKit
set_option linter.unusedVariables false
/-- Limits behind a slice's address. -/
def LimV (w : World) (ad : Option Addr) (L : Lims) : Prop := ∀ k, k < L.q → ∃ b off, ad = some ⟨b, off, none⟩ ∧ w.cell? ⟨b, off + k * 3, none⟩ = some (.int .i64 (L.i k)) ∧ w.cell? ⟨b, off + k * 3 + 1, none⟩ = some (.int .i64 (L.j k)) ∧ w.cell? ⟨b, off + k * 3 + 2, none⟩ = some (.int .i32 (L.b k))
theorem LimV.past {w w' : World} {ad : Option Addr} {L : Lims} (h : LimV w ad L) (hb : Below w.heap.size w w') : LimV w' ad L := fun k hk => by
  obtain ⟨b, off, e, c1, c2, c3⟩ := h k hk
  exact ⟨b, off, e, kc _ _ hb c1, kc _ _ hb c2, kc _ _ hb c3⟩
theorem LimV.row {w : World} {g : Nat} {L : Lims} (h : LimV w (some ⟨g, 0, none⟩) L) : LimRow w g 0 L := fun k hk => by
  obtain ⟨b, off, e, c1, c2, c3⟩ := h k hk
  injection e with e
  injection e with e1 e2
  subst e1
  subst e2
  exact ⟨c1, c2, c3⟩
def roomyL (L : Lims) : Lims := ⟨L.q + 9, fun k => if k < L.q then L.i k else -700 - ((k - L.q : Nat) : Int), fun k => if k < L.q then L.j k else 0, fun k => if k < L.q then L.b k else 0⟩
theorem roomyL_front {w : World} {ad : Option Addr} {L : Lims} (h : LimV w ad (roomyL L)) : LimV w ad L := fun k hk => by
  obtain ⟨b, off, e, c1, c2, c3⟩ := h k (by show k < L.q + 9; omega)
  simp only [roomyL, hk, if_true] at c1 c2 c3
  exact ⟨b, off, e, c1, c2, c3⟩
def cv3 (L : Lims) (j : Nat) : Value := if j % 3 = 0 then .int .i64 (L.i (j / 3)) else if j % 3 = 1 then .int .i64 (L.j (j / 3)) else .int .i32 (L.b (j / 3))
def zr3 (j : Nat) : Value := if j % 3 = 0 then .int .i64 0 else if j % 3 = 1 then .int .i64 0 else .int .i32 0
def fill3 (L : Lims) (K j : Nat) : Value := if j < K * 3 then cv3 L j else zr3 j
theorem fill3_next (L : Lims) (K j : Nat) : fill3 L (K + 1) j = if j = K * 3 + 2 then .int .i32 (L.b K) else if j = K * 3 + 1 then .int .i64 (L.j K) else if j = K * 3 then .int .i64 (L.i K) else fill3 L K j := by
  unfold fill3 cv3
  by_cases c : j = K * 3 + 2
  · subst c
    rw [if_pos rfl, if_pos (by omega), if_neg (by omega), if_neg (by omega), show (K * 3 + 2) / 3 = K by omega]
  · rw [if_neg c]
    by_cases d : j = K * 3 + 1
    · subst d
      rw [if_pos rfl, if_pos (by omega), if_neg (by omega), if_pos (by omega), show (K * 3 + 1) / 3 = K by omega]
    · rw [if_neg d]
      by_cases e : j = K * 3
      · subst e
        rw [if_pos rfl, if_pos (by omega), if_pos (by omega), show K * 3 / 3 = K by omega]
      · rw [if_neg e]
        by_cases l : j < K * 3
        · rw [if_pos l, if_pos (by omega)]
        · rw [if_neg l, if_neg (by omega)]
theorem fill3_row {L : Lims} {w : World} {g : Nat} (h : ∀ j, j < L.q * 3 → w.cell? ⟨g, j, none⟩ = some (fill3 L L.q j)) : LimV w (some ⟨g, 0, none⟩) L := fun k hk => by
  have h0 := h (k * 3) (by omega)
  have h1 := h (k * 3 + 1) (by omega)
  have h2 := h (k * 3 + 2) (by omega)
  unfold fill3 cv3 at h0 h1 h2
  rw [if_pos (by omega), if_pos (by omega), show k * 3 / 3 = k by omega] at h0
  rw [if_pos (by omega), if_neg (by omega), if_pos (by omega), show (k * 3 + 1) / 3 = k by omega] at h1
  rw [if_pos (by omega), if_neg (by omega), if_neg (by omega), show (k * 3 + 2) / 3 = k by omega] at h2
  exact ⟨g, 0, rfl, by rw [Nat.zero_add]; exact h0, by rw [Nat.zero_add]; exact h1, by rw [Nat.zero_add]; exact h2⟩
theorem make_lims (N : Nat) (hb : 24 * N ≤ 281474976710656) (w : World) :
    (Instr.makeSlice 35 (.int .i64 (N : Int)) (.int .i64 (N : Int))).run Tryd.prog w = .ok (.slice (some ⟨w.heap.size, 0, none⟩) N N) (w.alloc (.cells (madeCells #[.int .i64 0, .int .i64 0, .int .i32 0] (N * 3)) 83)) := by
  obtain ⟨i, hi, hzz⟩ := Option.map_eq_some_iff.1 info_lim
  simp only [Prod.mk.injEq] at hzz
  obtain ⟨hz, hs, hb'⟩ := hzz
  have hB : (i.bytes : Int) * (N : Int) ≤ 281474976710656 := by rw [hb']; omega
  have hr := run_make (P := Tryd.prog) w 35 83 i _ Tryd.underlying35 hi hz .i64 .i64 N N (by omega) (Int.le_refl _) hB (by omega)
  simp only [Int.toNat_natCast, hs] at hr
  exact hr
theorem made_fill3 (L : Lims) (N : Nat) (w : World) (T : TypeId) : ∀ j, j < N * 3 → (w.alloc (.cells (madeCells #[.int .i64 0, .int .i64 0, .int .i32 0] (N * 3)) T)).cell? ⟨w.heap.size, j, none⟩ = some (fill3 L 0 j) := fun j hj => by
  rw [World.cell?_alloc_at _ _ _ _ rfl]
  have : j % 3 = 0 ∨ j % 3 = 1 ∨ j % 3 = 2 := by omega
  rcases this with h | h | h <;> simp [madeCells, hj, fill3, zr3, h]
theorem fill3_set {w : World} {g N K : Nat} {L : Lims} (hK : K < N) (h : ∀ j, j < N * 3 → w.cell? ⟨g, j, none⟩ = some (fill3 L K j)) :
    ∀ j, j < N * 3 → (((w.setCell ⟨g, K * 3, none⟩ (.int .i64 (L.i K))).setCell ⟨g, K * 3 + 1, none⟩ (.int .i64 (L.j K))).setCell ⟨g, K * 3 + 2, none⟩ (.int .i32 (L.b K))).cell? ⟨g, j, none⟩ = some (fill3 L (K + 1) j) := fun j hj => by
  rw [fill3_next]
  have h1 : (w.setCell ⟨g, K * 3, none⟩ (.int .i64 (L.i K))).cell? ⟨g, K * 3 + 1, none⟩ = some (fill3 L K (K * 3 + 1)) := by
    rw [World.cell?_setCell_other _ _ _ _ (by intro e; injection e; omega)]
    exact h _ (by omega)
  have h2 : ((w.setCell ⟨g, K * 3, none⟩ (.int .i64 (L.i K))).setCell ⟨g, K * 3 + 1, none⟩ (.int .i64 (L.j K))).cell? ⟨g, K * 3 + 2, none⟩ = some (fill3 L K (K * 3 + 2)) := by
    rw [World.cell?_setCell_other _ _ _ _ (by intro e; injection e; omega), World.cell?_setCell_other _ _ _ _ (by intro e; injection e; omega)]
    exact h _ (by omega)
  by_cases c : j = K * 3 + 2
  · subst c
    rw [World.cell?_setCell_same _ _ _ h2, if_pos rfl]
  · rw [World.cell?_setCell_other _ _ _ _ (by intro e; injection e; omega), if_neg c]
    by_cases d : j = K * 3 + 1
    · subst d
      rw [World.cell?_setCell_same _ _ _ h1, if_pos rfl]
    · rw [World.cell?_setCell_other _ _ _ _ (by intro e; injection e; omega), if_neg d]
      by_cases e : j = K * 3
      · subst e
        rw [World.cell?_setCell_same _ _ _ (h _ hj), if_pos rfl]
      · rw [World.cell?_setCell_other _ _ _ _ (by intro e; injection e; omega), if_neg e]
        exact h j hj
/-- Three stores into the call's own block. -/
def set3 (w : World) (g o : Nat) (x y : Int) (z : Int) : World := ((w.setCell ⟨g, o, none⟩ (.int .i64 x)).setCell ⟨g, o + 1, none⟩ (.int .i64 y)).setCell ⟨g, o + 2, none⟩ (.int .i32 z)
theorem set3_frozen (w : World) (g o : Nat) (x y z : Int) (p : Addr) : (set3 w g o x y z).frozen? p = w.frozen? p := by
  unfold set3
  rw [World.frozen?_setCell, World.frozen?_setCell, World.frozen?_setCell]
theorem set3_below {w0 w : World} {g o : Nat} {x y z : Int} {B : Nat} (h : Below B w0 w) (hg : B ≤ g) : Below B w0 (set3 w g o x y z) := ((h.setCell (p := ⟨g, o, none⟩) hg _).setCell (p := ⟨g, o + 1, none⟩) hg _).setCell (p := ⟨g, o + 2, none⟩) hg _
theorem set3_size (w : World) (g o : Nat) (x y z : Int) : (set3 w g o x y z).heap.size = w.heap.size := by simp [set3, World.setCell]
set_option maxRecDepth 100000 in
set_option maxHeartbeats 4000000 in
theorem hand_lims (ad : Option Addr) (cap : Nat) (L : Lims) (w : World) (hR : LimV w ad L) (hq : L.q * 24 ≤ 140737488355328) :
    Calls Tryd.prog 26 #[.slice ad L.q cap] w fun e w' => e = .returned (.slice (some ⟨w.heap.size, 0, none⟩) L.q (L.q + 9)) ∧ LimV w' (some ⟨w.heap.size, 0, none⟩) (roomyL L) ∧ w.heap.size < w'.heap.size ∧ Below w.heap.size w w' := by
  have hmk := make_lims (L.q + 9) (by omega)
  have HR := hideD hR
  have E1 : Hid (∀ k, k < L.q → (roomyL L).i k = L.i k ∧ (roomyL L).j k = L.j k ∧ (roomyL L).b k = L.b k) := fun k hk => by simp [roomyL, hk]
  have E2 : Hid (∀ k, L.q ≤ k → (roomyL L).i k = -700 - ((k - L.q : Nat) : Int) ∧ (roomyL L).j k = 0 ∧ (roomyL L).b k = 0) := fun k hk => by simp [roomyL, Nat.not_lt.2 hk]
  have E3 : Hid ((roomyL L).q = L.q + 9) := rfl
  have F0 := hideD (made_fill3 (roomyL L) (L.q + 9) w 83)
  clear hR
  generalize hm : L.q = m at *
  have HM := hideD hm
  clear hm
  have e0 : IntKind.i64.wrap ((m : Int) + 9) = ((m + 9 : Nat) : Int) := by rw [IntKind.wrap_i64]; omega
  generalize hN : m + 9 = N at *
  have HN := hideD hN
  clear hN
  have m1 : (m : Int) ≤ 9223372036854775807 := by omega
  go_enter Tryd.func26, Tryd.ntmps26
  go_wp2_with fail
  have Z0 : Hid (∀ j, (w.alloc (.cells (madeCells #[.int .i64 0, .int .i64 0, .int .i32 0] (N * 3)) 83)).frozen? ⟨w.heap.size, j, none⟩ = false) := fun j => by simp [go_sem]
  have B0 := hideD (below_one w (.cells (madeCells #[.int .i64 0, .int .i64 0, .int .i32 0] (N * 3)) 83))
  have S0 : Hid (w.heap.size < (w.alloc (.cells (madeCells #[.int .i64 0, .int .i64 0, .int .i32 0] (N * 3)) 83)).heap.size) := by show _ < _; simp
  generalize w.alloc (.cells (madeCells #[.int .i64 0, .int .i64 0, .int .i32 0] (N * 3)) 83) = W at *
  clear hmk
  go_loopw [4] (fun s wr => ∃ (K : Nat), K ≤ m ∧ s = .int .i64 K ∧ Hid (∀ j, j < N * 3 → wr.cell? ⟨w.heap.size, j, none⟩ = some (fill3 (roomyL L) K j)) ∧ Hid (∀ j, wr.frozen? ⟨w.heap.size, j, none⟩ = false) ∧ Hid (w.heap.size < wr.heap.size) ∧ Hid (Below w.heap.size w wr)) (fun s _ => m - (intOf s).toNat)
  case atStart => exact ⟨0, by omega, rfl, F0, Z0, S0, B0⟩
  case round =>
    obtain ⟨K, hK, rfl, F, Z, Sz, B⟩ := hrel
    clear F0 Z0 B0 S0
    by_cases ck : K < m
    · obtain ⟨b, off, rfl, c1', c2', c3'⟩ := HR.out K (by rw [HM.out]; exact ck)
      have c1 := kc _ _ B.out c1'
      have c2 := kc _ _ B.out c2'
      have c3 := kc _ _ B.out c3'
      clear c1' c2' c3'
      have kN : K < N := by have := HN.out; omega
      have FN := hideD (fill3_set kN F.out)
      obtain ⟨x0, x1, x2⟩ := E1.out K ck
      rw [x0, x1, x2] at FN
      have z0 := Z.out (K * 3)
      have z1 := Z.out (K * 3 + 1)
      have z2 := Z.out (K * 3 + 2)
      have y0 := F.out (K * 3) (by omega)
      have y1 := F.out (K * 3 + 1) (by omega)
      have y2 := F.out (K * 3 + 2) (by omega)
      generalize L.i K = x at *
      generalize L.j K = y at *
      generalize L.b K = t at *
      have ZN : Hid (∀ j, (set3 wr w.heap.size (K * 3) x y t).frozen? ⟨w.heap.size, j, none⟩ = false) := fun j => by rw [set3_frozen]; exact Z.out j
      have BN : Hid (Below w.heap.size w (set3 wr w.heap.size (K * 3) x y t)) := set3_below B.out (Nat.le_refl _)
      have SN : Hid (w.heap.size < (set3 wr w.heap.size (K * 3) x y t).heap.size) := by show _ < _; rw [set3_size]; exact Sz.out
      have k0 : (0 : Int) ≤ (K : Int) := by omega
      have k1 : (K : Int) < (m : Int) := by omega
      have k2 : (K : Int) < (N : Int) := by omega
      clear F Z Sz B
      go_wp2_with fail
      go_roundw
      case rel => exact ⟨K + 1, by omega, by go_num, FN, ZN, SN, BN⟩
      case measure => simp [intOf]; omega
    · have e : K = m := by omega
      subst e
      have k1 : decide ((K : Int) < (K : Int)) = false := by simp
      go_wp2_with fail
      go_loopw [5] (fun s wr => ∃ (J : Nat), K ≤ J ∧ J ≤ N ∧ s = .int .i64 J ∧ Hid (∀ j, j < N * 3 → wr.cell? ⟨w.heap.size, j, none⟩ = some (fill3 (roomyL L) J j)) ∧ Hid (∀ j, wr.frozen? ⟨w.heap.size, j, none⟩ = false) ∧ Hid (w.heap.size < wr.heap.size) ∧ Hid (Below w.heap.size w wr)) (fun s _ => N - (intOf s).toNat)
      case atStart => exact ⟨K, by omega, by have := HN.out; omega, rfl, F, Z, Sz, B⟩
      case round =>
        obtain ⟨J, hJ, hJN, rfl, F', Z', S', B'⟩ := hrel
        clear F Z Sz B
        by_cases cj : J < N
        · have FN := hideD (fill3_set cj F'.out)
          obtain ⟨x0, x1, x2⟩ := E2.out J hJ
          rw [x0, x1, x2] at FN
          have z0 := Z'.out (J * 3)
          have z1 := Z'.out (J * 3 + 1)
          have z2 := Z'.out (J * 3 + 2)
          have y0 := F'.out (J * 3) (by omega)
          have y1 := F'.out (J * 3 + 1) (by omega)
          have y2 := F'.out (J * 3 + 2) (by omega)
          have e1 : IntKind.i64.wrap (-700 - (J : Int)) = -700 - (J : Int) := by rw [IntKind.wrap_i64]; have := HN.out; omega
          have e2 : IntKind.i64.wrap (-700 - (J : Int) + (K : Int)) = -700 - ((J - K : Nat) : Int) := by rw [IntKind.wrap_i64]; have := HN.out; omega
          have e3 : IntKind.i64.wrap (-700 - ((J - K : Nat) : Int)) = -700 - ((J - K : Nat) : Int) := by rw [IntKind.wrap_i64]; have := HN.out; omega
          generalize -700 - ((J - K : Nat) : Int) = x at *
          have ZN : Hid (∀ j, (set3 wr w.heap.size (J * 3) x 0 0).frozen? ⟨w.heap.size, j, none⟩ = false) := fun j => by rw [set3_frozen]; exact Z'.out j
          have BN : Hid (Below w.heap.size w (set3 wr w.heap.size (J * 3) x 0 0)) := set3_below B'.out (Nat.le_refl _)
          have SN : Hid (w.heap.size < (set3 wr w.heap.size (J * 3) x 0 0).heap.size) := by show _ < _; rw [set3_size]; exact S'.out
          have k0 : (0 : Int) ≤ (J : Int) := by omega
          have k2 : (J : Int) < (N : Int) := by omega
          have k5 : (J : Int) ≤ 9000000000000000000 := by have := HN.out; omega
          clear F' Z' S' B'
          go_wp2_with fail
          go_roundw
          case rel => exact ⟨J + 1, by omega, by omega, by go_num, FN, ZN, SN, BN⟩
          case measure => simp [intOf]; omega
        · have e : J = N := by omega
          subst e
          have FIN := hideD (fill3_row (L := roomyL L) (w := wr) (g := w.heap.size) (by rw [E3.out]; exact F'.out))
          have KN : Hid (K + 9 = J) := HN.out
          have k3 : (K : Int) ≤ (J : Int) := by have := HN.out; omega
          go_wp2_with fail
          go_ret
          exact ⟨rfl, FIN.out, S'.out, B'.out⟩
set_option maxRecDepth 100000 in
set_option maxHeartbeats 4000000 in
theorem same_lims (ad ad' : Option Addr) (cap cap' : Nat) (L : Lims) (w : World) (hV : LimV w ad L) (hV' : LimV w ad' L) (hq : L.q ≤ 9223372036854775807) :
    Calls Tryd.prog 36 #[.slice ad L.q cap, .slice ad' L.q cap'] w fun e w' => e = .returned (.bool true) ∧ Below w.heap.size w w' := by
  have HV := hideD hV
  have HV' := hideD hV'
  clear hV hV'
  generalize hm : L.q = m at *
  have HM := hideD hm
  clear hm
  have m0 : ((m : Int) == (m : Int)) = true := by simp
  have B0 := hideD (Below.refl w.heap.size w)
  go_enter Tryd.func36, Tryd.ntmps36
  go_wp2_with fail
  go_loopw [5] (fun s wr => ∃ (J : Nat), J ≤ m ∧ s = .int .i64 J ∧ Hid (Below w.heap.size w wr)) (fun s _ => m - (intOf s).toNat)
  case atStart => exact ⟨0, by omega, rfl, B0⟩
  case round =>
    obtain ⟨J, hJ, rfl, B⟩ := hrel
    clear B0
    by_cases cj : J < m
    · obtain ⟨b, off, rfl, d1, d2, d3⟩ := HV.out J (by rw [HM.out]; exact cj)
      obtain ⟨b', off', rfl, f1, f2, f3⟩ := HV'.out J (by rw [HM.out]; exact cj)
      have c1 := kc _ _ B.out d1
      have c2 := kc _ _ B.out d2
      have c3 := kc _ _ B.out d3
      have g1 := kc _ _ B.out f1
      have g2 := kc _ _ B.out f2
      have g3 := kc _ _ B.out f3
      have k0 : (0 : Int) ≤ (J : Int) := by omega
      have k1 : (J : Int) < (m : Int) := by omega
      clear d1 d2 d3 f1 f2 f3
      generalize L.i J = u at *
      generalize L.j J = v at *
      generalize L.b J = t at *
      go_wp2_with fail
      go_quiet (fail)
      go_wp2_with fail
      go_roundw
      case rel => exact ⟨J + 1, by omega, by go_num, hideD (by first | exact B.out | exact Below.drew B.out | exact below_drewN B.out _)⟩
      case measure => simp [intOf]; omega
    · have e : J = m := by omega
      subst e
      have k1 : decide ((J : Int) < (J : Int)) = false := by simp
      go_wp2_with fail
      go_ret
      exact ⟨rfl, B.out⟩
set_option maxRecDepth 100000 in
set_option maxHeartbeats 4000000 in
theorem kept_lims (g : Nat) (ad : Option Addr) (cap : Nat) (L : Lims) (w : World) (hV : LimV w (some ⟨g, 0, none⟩) (roomyL L)) (hV' : LimV w ad L) (hq : L.q * 24 ≤ 140737488355328) :
    Calls Tryd.prog 29 #[.slice (some ⟨g, 0, none⟩) L.q (L.q + 9), .slice ad L.q cap] w fun e w' => e = .returned (.bool true) ∧ Below w.heap.size w w' := by
  have HS : Hid (∀ w', Below w.heap.size w w' → Calls Tryd.prog 36 #[.slice (some ⟨g, 0, none⟩) L.q (L.q + 9), .slice ad L.q cap] w' fun e w'' => e = .returned (.bool true) ∧ Below w'.heap.size w' w'') := fun w' hb => same_lims _ _ _ _ L w' ((roomyL_front hV).past hb) (hV'.past hb) (by omega)
  have HV : Hid (∀ k, L.q ≤ k → k < L.q + 9 → w.cell? ⟨g, k * 3, none⟩ = some (.int .i64 (-700 - ((k - L.q : Nat) : Int))) ∧ w.cell? ⟨g, k * 3 + 1, none⟩ = some (.int .i64 0) ∧ w.cell? ⟨g, k * 3 + 2, none⟩ = some (.int .i32 0)) := fun k h1 h2 => by
    obtain ⟨b, off, e, c1, c2, c3⟩ := hV k h2
    injection e with e
    injection e with e1 e2
    subst e1
    subst e2
    simp only [roomyL, Nat.not_lt.2 h1, if_false, Nat.zero_add] at c1 c2 c3
    exact ⟨c1, c2, c3⟩
  clear hV hV'
  generalize hm : L.q = m at *
  have e0 : IntKind.i64.wrap ((m : Int) + 9) = ((m + 9 : Nat) : Int) := by rw [IntKind.wrap_i64]; omega
  generalize hN : m + 9 = N at *
  have HN := hideD hN
  have m1 : (0 : Int) ≤ (N : Int) := by omega
  clear hN hm
  go_enter Tryd.func29, Tryd.ntmps29
  go_wp2_with fail
  refine (HS.out _ (Below.refl _ _)).mono ?_
  rintro e w1 ⟨rfl, hb⟩
  have HB := hideD hb
  clear hb HS
  go_wp2_with fail
  go_loopw [6] (fun s wr => ∃ (J : Nat), m ≤ J ∧ J ≤ N ∧ s = .int .i64 J ∧ Hid (Below w.heap.size w wr)) (fun s _ => N - (intOf s).toNat)
  case atStart => exact ⟨m, by omega, by have := HN.out; omega, rfl, HB⟩
  case round =>
    obtain ⟨J, hJ, hJN, rfl, B⟩ := hrel
    clear HB
    by_cases cj : J < N
    · obtain ⟨d1, d2, d3⟩ := HV.out J hJ cj
      have c1 := kc _ _ B.out d1
      have c2 := kc _ _ B.out d2
      have c3 := kc _ _ B.out d3
      have k0 : (0 : Int) ≤ (J : Int) := by omega
      have k1 : (J : Int) < (N : Int) := by omega
      have k5 : (J : Int) ≤ 9000000000000000000 := by have := HN.out; omega
      have e1 : IntKind.i64.wrap (-700 - (J : Int)) = -700 - (J : Int) := by rw [IntKind.wrap_i64]; have := HN.out; omega
      have e2 : IntKind.i64.wrap (-700 - (J : Int) + (m : Int)) = -700 - ((J - m : Nat) : Int) := by rw [IntKind.wrap_i64]; have := HN.out; omega
      have e3 : IntKind.i64.wrap (-700 - ((J - m : Nat) : Int)) = -700 - ((J - m : Nat) : Int) := by rw [IntKind.wrap_i64]; have := HN.out; omega
      clear d1 d2 d3
      generalize -700 - ((J - m : Nat) : Int) = x at *
      go_wp2_with fail
      go_roundw
      case rel => exact ⟨J + 1, by omega, by omega, by go_num, B⟩
      case measure => simp [intOf]; omega
    · have e : J = N := by omega
      subst e
      have k1 : decide ((J : Int) < (J : Int)) = false := by simp
      go_wp2_with fail
      go_ret
      exact ⟨rfl, B.out⟩
end Go.Proofs.YtfffcmelkdmjaaaDoor

/-
  The document's Constrain; both ways of Constrain are one.
-/
namespace Go.Proofs.YtfffcmelkdmjaaaDoor
open Go.RowKit
set_option linter.unusedVariables false
set_option maxRecDepth 100000
theorem rcon_nil (v : Value) (w : World) : Calls Tryd.prog 28 #[.pointer none, v] w fun e w' => e = errOf 1 ∧ w' = w := by
  go_enter Tryd.func28, Tryd.ntmps28
  go_wp2_with fail
  exact bodyPost_ret (v := .tuple #[.pointer none, .int .i64 1]) (by simp [results, Tryd.results28, go_sem]) rfl ⟨rfl, rfl⟩
/-- The document's cells with the first K limits. -/
def rcon (L : Lims) : Nat → Mat → Mat
  | 0, r => r
  | K + 1, r => if L.b K = 2147483647 then rcon L K r else lessM (rcon L K r) (L.i K).toNat (L.j K).toNat (L.b K)
/-- What the document tells of limits. -/
def RconOut (w' : World) (n m : Nat) (e : Ending) (L : Lims) (o : Option Row) : Prop :=
  (bndA n L L.q = false ∧ e = errOf 12) ∨ (bndA n L L.q = true ∧ rgtA L L.q = false ∧ e = errOf 2) ∨ (bndA n L L.q = true ∧ rgtA L L.q = true ∧ RefOut w' n m e o)
set_option maxHeartbeats 8000000 in
theorem rcon_any (r n m B cap : Nat) (ad : Option Addr) (L : Lims) (c : Row) (o : Option Row) (w : World) (hn : n ≤ 8) (hm : m = (n + 1) * (n + 1)) (h : RZone w B r n (listOf c m)) (hV : LimV w ad L) (hi : ∀ k, k < L.q → -2147483648 ≤ L.b k ∧ L.b k ≤ 2147483647) (hq : L.q ≤ 9223372036854775807) (hZ : c = (fun _ => 0) ∧ o = some (fun _ => 0) ∨ ∃ p, FullC n m p c ∧ C32 c ∧ (bndA n L L.q = true → rgtA L L.q = true → Ok n (rcon L L.q (rowMat n (listOf c m))) ∧ (∀ j, j ≤ n → rcon L L.q (rowMat n (listOf c m)) 0 j ≤ 1) ∧ zoneR n (rcon L L.q (rowMat n (listOf c m))) = o)) :
    Calls Tryd.prog 28 #[.pointer (some ⟨r, 0, none⟩), .slice ad L.q cap] w fun e w' => RconOut w' n m e L o ∧ Below w.heap.size w w' := by
  have HD : Hid (∀ w', Below w.heap.size w w' → Calls Tryd.prog 82 #[.pointer (some ⟨r, 0, none⟩)] w' fun e w'' => e = .returned (.int .i64 n) ∧ w'' = w') := fun w' hb => rdim_any (h.past hb)
  have mp : 0 < m := by rw [hm]; exact Nat.mul_pos (by omega) (by omega)
  have HE : Hid (∀ w', Below w.heap.size w w' → _) := fun w' hb => rempty_is (h.past hb) mp
  have HN : Hid (∀ w, _) := fun w => nothing_any n m w hn hm
  have HOp : Hid (C32 c → ∀ w', Below w.heap.size w w' → _) := fun h32 w' hb => open_any r n m B (listOf c m) w' hn hm (listOf_len c m) (fun j hj => by rw [listOf_get c m j hj]; exact h32 j) (h.past hb)
  have HSh : Hid (∀ d g s w, RC w d g n m s → Ok n s → (∀ j, j ≤ n → s 0 j ≤ 1) → _) := fun d g s w hr h1 h2 => shut_any d g n m s w hn hm hr h1 h2
  have HLs : Hid (∀ (d g i j : Nat) (v : Int) (s : Mat) w, i ≤ n → j ≤ n → RC w d g n m s → _) := fun d g i j v s w hi hj hr => less_any d g n m i j v s w hn hi hj hm hr
  have HZ := hideD hZ
  have C0 : Hid (∀ p, FullC n m p c → c 0 = 1) := fun p hp => hp.zero hm
  clear hZ
  have HV := hideD hV
  have HI := hideD hi
  have HF1 : Hid (∀ w' e, bndA n L L.q = false → e = errOf 12 → RconOut w' n m e L o) := fun w' e h1 h2 => .inl ⟨h1, h2⟩
  have HF2 : Hid (∀ w' e, bndA n L L.q = true → rgtA L L.q = false → e = errOf 2 → RconOut w' n m e L o) := fun w' e h1 h2 h3 => .inr (.inl ⟨h1, h2, h3⟩)
  have HF3 : Hid (∀ w' e, bndA n L L.q = true → rgtA L L.q = true → RefOut w' n m e o → RconOut w' n m e L o) := fun w' e h1 h2 h3 => .inr (.inr ⟨h1, h2, h3⟩)
  clear hV hi
  generalize eq : L.q = q at *
  have EQ := hideD eq
  clear eq
  have q1 : (q : Int) ≤ 9223372036854775807 := by omega
  go_enter Tryd.func28, Tryd.ntmps28
  go_wp2_with fail
  go_loopw [6] (fun s wr => ∃ (K : Nat), K ≤ q ∧ s = .int .i64 (K : Int) ∧ Hid (bndA n L K = true) ∧ Hid (Below w.heap.size w wr)) (fun s _ => q - (intOf s).toNat)
  case atStart => exact ⟨0, by omega, rfl, rfl, Below.refl _ _⟩
  case round =>
    obtain ⟨K, hK, rfl, hA, hB⟩ := hrel
    by_cases ck : K < q
    · have k0 : (0 : Int) ≤ (K : Int) := by omega
      have k1 : (K : Int) < (q : Int) := by omega
      obtain ⟨b, off, rfl, c0', c1', c2'⟩ := HV.out K (by have := EQ.out; omega)
      have c0 := kc _ _ hB.out c0'
      have c1 := kc _ _ hB.out c1'
      have st : Hid (bndA n L (K + 1) = bndB n L K) := by show _ = _; simp [bndA, hA.out]
      have st2 : Hid (bndB n L K = decide (0 ≤ L.i K ∧ L.i K ≤ n ∧ 0 ≤ L.j K ∧ L.j K ≤ n)) := rfl
      clear c0' c1' c2'
      generalize L.i K = x at *
      generalize L.j K = y at *
      have HDK : Hid (∀ k, Calls Tryd.prog 82 #[.pointer (some ⟨r, 0, none⟩)] (wr.drewN k) fun e w'' => e = .returned (.int .i64 n) ∧ ∃ k', w'' = (wr.drewN k).drewN k') := fun k => (HD.out _ (below_drewN hB.out k)).mono fun e w'' ⟨h1, h2⟩ => ⟨h1, 0, h2⟩
      by_cases x0 : x < 0
      · have st3 : Hid (bndA n L q = false) := bndA_false (k := K + 1) q (by omega) (by rw [st.out, st2.out]; exact decide_eq_false (by omega))
        clear st st2
        go_wp2_with fail
        go_quiet (fail)
        go_wp2_with fail
        exact bodyPost_ret (v := .tuple #[.pointer none, .int .i64 12]) (by simp [results, Tryd.results28, go_sem]) rfl ⟨HF1.out _ _ st3.out rfl, below_drewN hB.out _⟩
      · have dx0 : decide (x < 0) = false := by simpa using x0
        by_cases x1 : (n : Int) < x
        · have st3 : Hid (bndA n L q = false) := bndA_false (k := K + 1) q (by omega) (by rw [st.out, st2.out]; exact decide_eq_false (by omega))
          have dx1 : decide ((n : Int) < x) = true := by simpa using x1
          clear st st2 HD HV HI HF2 HF3 HE HN HOp HSh HLs HZ C0
          go_wp2_with fail
          go_quiet ((go_at_call 82; exact Calls.quiet_of (HDK.out _)))
          go_wp2_with fail
          exact bodyPost_ret (v := .tuple #[.pointer none, .int .i64 12]) (by simp [results, Tryd.results28, go_sem]) rfl ⟨HF1.out _ _ st3.out rfl, below_drewN hB.out _⟩
        · have dx1 : decide ((n : Int) < x) = false := by simpa using x1
          by_cases y0 : y < 0
          · have st3 : Hid (bndA n L q = false) := bndA_false (k := K + 1) q (by omega) (by rw [st.out, st2.out]; exact decide_eq_false (by omega))
            have dy0 : decide (y < 0) = true := by simpa using y0
            clear st st2 HD HV HI HF2 HF3 HE HN HOp HSh HLs HZ C0
            go_wp2_with fail
            go_quiet ((go_at_call 82; exact Calls.quiet_of (HDK.out _)))
            go_wp2_with fail
            exact bodyPost_ret (v := .tuple #[.pointer none, .int .i64 12]) (by simp [results, Tryd.results28, go_sem]) rfl ⟨HF1.out _ _ st3.out rfl, below_drewN hB.out _⟩
          · have dy0 : decide (y < 0) = false := by simpa using y0
            by_cases y1 : (n : Int) < y
            · have st3 : Hid (bndA n L q = false) := bndA_false (k := K + 1) q (by omega) (by rw [st.out, st2.out]; exact decide_eq_false (by omega))
              have dy1 : decide ((n : Int) < y) = true := by simpa using y1
              clear st st2 HD HV HI HF2 HF3 HE HN HOp HSh HLs HZ C0
              go_wp2_with fail
              go_quiet ((go_at_call 82; exact Calls.quiet_of (HDK.out _)))
              go_wp2_with fail
              exact bodyPost_ret (v := .tuple #[.pointer none, .int .i64 12]) (by simp [results, Tryd.results28, go_sem]) rfl ⟨HF1.out _ _ st3.out rfl, below_drewN hB.out _⟩
            · have st3 : Hid (bndA n L (K + 1) = true) := by show _ = _; rw [st.out, st2.out]; exact decide_eq_true (by omega)
              have dy1 : decide ((n : Int) < y) = false := by simpa using y1
              clear st st2
              go_wp2_with fail
              go_quiet ((go_at_call 82; exact Calls.quiet_of (HDK.out _)))
              go_wp2_with fail
              go_roundw
              case rel => exact ⟨K + 1, by omega, by go_num, st3, below_drewN hB.out _⟩
              case measure => simp [intOf]; omega
    · have eK : K = q := by omega
      have hA' : Hid (bndA n L q = true) := by rw [← eK]; exact hA
      clear hA eK
      go_wp2_with fail
      go_loopw [7] (fun s wr => ∃ (K : Nat), K ≤ q ∧ s = .int .i64 (K : Int) ∧ Hid (rgtA L K = true) ∧ Hid (Below w.heap.size w wr)) (fun s _ => q - (intOf s).toNat)
      case atStart => exact ⟨0, by omega, rfl, rfl, hB⟩
      case round =>
        obtain ⟨J, hJ, rfl, hG, hB⟩ := hrel
        by_cases cj : J < q
        · have k0 : (0 : Int) ≤ (J : Int) := by omega
          have k1 : (J : Int) < (q : Int) := by omega
          obtain ⟨b, off, rfl, c0', c1', c2'⟩ := HV.out J (by have := EQ.out; omega)
          have c2 := kc _ _ hB.out c2'
          have st : Hid (rgtA L (J + 1) = rightB (L.b J)) := by show _ = _; simp [rgtA, hG.out]
          obtain ⟨z0, z1⟩ := HI.out J (by have := EQ.out; omega)
          clear c0' c1' c2'
          generalize L.b J = z at *
          have HGJ := hideD (fun w => rright_any z w z0 z1)
          cases cr : rightB z with
          | false =>
            rw [cr] at HGJ st
            have st3 : Hid (rgtA L q = false) := rgtA_false (k := J + 1) q (by omega) st.out
            clear st
            go_wp2_with fail
            refine (HGJ.out _).mono ?_
            rintro e w6 ⟨rfl, rfl⟩
            go_wp2_with fail
            exact bodyPost_ret (v := .tuple #[.pointer none, .int .i64 2]) (by simp [results, Tryd.results28, go_sem]) rfl ⟨HF2.out _ _ hA'.out st3.out rfl, hB.out⟩
          | true =>
            rw [cr] at HGJ st
            go_wp2_with fail
            refine (HGJ.out _).mono ?_
            rintro e w6 ⟨rfl, rfl⟩
            go_wp2_with fail
            go_roundw
            case rel => exact ⟨J + 1, by omega, by go_num, st, hB⟩
            case measure => simp [intOf]; omega
        · have eJ : J = q := by omega
          subst eJ
          have HEJ := hideD (HE.out _ hB.out)
          rcases HZ.out with ⟨hc0, ho0⟩ | ⟨p, hp, h32, hrest⟩
          · rw [hc0] at HEJ
            have HDJ := hideD (HD.out _ hB.out)
            have FO : Hid (∀ w' e, RefOut w' n m e (some fun _ => 0) → RconOut w' n m e L o) := fun w' e h => HF3.out w' e hA'.out hG.out (by rw [ho0]; exact h)
            clear HE HV HI HF1 HF2 HF3 HOp HSh HLs HZ C0 hc0 ho0
            go_wp2_with fail
            refine HEJ.out.mono ?_
            rintro e w1 ⟨rfl, rfl⟩
            go_wp2_with fail
            refine HDJ.out.mono ?_
            rintro e w1 ⟨rfl, rfl⟩
            go_wp2_with fail
            refine (HN.out _).mono ?_
            rintro e w2 ⟨⟨b, B', rfl, hz⟩, hb⟩
            go_wp2_with fail
            exact bodyPost_ret (v := .tuple #[.pointer (some ⟨b, 0, none⟩), .int .i64 0]) (by simp [results, Tryd.results28, go_sem]) rfl ⟨FO.out _ _ ⟨B', b, rfl, hz⟩, beyondD hB.out hb⟩
          · obtain ⟨ok1, ok2, ok3⟩ := hrest hA'.out hG.out
            have e0 : c 0 = 1 := C0.out p hp
            rw [e0] at HEJ
            have HOJ := hideD (HOp.out h32 _ hB.out)
            have FO : Hid (∀ w' e, RefOut w' n m e o → RconOut w' n m e L o) := fun w' e h => HF3.out w' e hA'.out hG.out h
            have OK3 := hideD ok3
            have OK : Hid (Ok n (rcon L J (rowMat n (listOf c m))) ∧ (∀ j, j ≤ n → rcon L J (rowMat n (listOf c m)) 0 j ≤ 1) ∧ zoneR n (rcon L J (rowMat n (listOf c m))) = o) := ⟨ok1, ok2, ok3⟩
            generalize rowMat n (listOf c m) = r0 at *
            clear HE HF1 HF2 HF3 HOp HZ C0 hp h32 hrest ok1 ok2 ok3 HN e0 OK3
            go_wp2_with fail
            refine HEJ.out.mono ?_
            rintro e w1 ⟨rfl, rfl⟩
            go_wp2_with fail
            refine HOJ.out.mono ?_
            rintro e w2 ⟨⟨d, g, rfl, hd, hg, hR⟩, hb⟩
            have hg' : w.heap.size ≤ g := Nat.le_trans hB.out.size hg
            have R2 := hideD hR
            have B2 := hideD (beyondD hB.out hb)
            clear hb hR HOJ HEJ hg hd
            go_wp2_with fail
            go_loopw [9] (fun s wr => ∃ (K : Nat), K ≤ J ∧ s = .int .i64 (K : Int) ∧ Hid (RC wr d g n m (rcon L K r0)) ∧ Hid (Below w.heap.size w wr)) (fun s _ => J - (intOf s).toNat)
            case atStart => exact ⟨0, by omega, rfl, R2, B2⟩
            case round =>
              obtain ⟨K, hK, rfl, hR, hB3⟩ := hrel
              clear R2 B2
              by_cases ck : K < J
              · have k0 : (0 : Int) ≤ (K : Int) := by omega
                have k1 : (K : Int) < (J : Int) := by omega
                obtain ⟨b, off, rfl, c0', c1', c2'⟩ := HV.out K (by have := EQ.out; omega)
                have c0 := kc _ _ hB3.out c0'
                have c1 := kc _ _ hB3.out c1'
                have c2 := kc _ _ hB3.out c2'
                have nx : Hid (rcon L (K + 1) r0 = if L.b K = 2147483647 then rcon L K r0 else lessM (rcon L K r0) (L.i K).toNat (L.j K).toNat (L.b K)) := rfl
                have bb := bndA_at hA'.out K ck
                simp only [bndB, decide_eq_true_eq] at bb
                obtain ⟨x, hx⟩ := Int.eq_ofNat_of_zero_le bb.1
                obtain ⟨y, hy⟩ := Int.eq_ofNat_of_zero_le bb.2.2.1
                have x8 : x ≤ n := by omega
                have y8 : y ≤ n := by omega
                rw [hx] at c0 nx
                rw [hy] at c1 nx
                obtain ⟨z0, z1⟩ := HI.out K (by have := EQ.out; omega)
                have hbg : b < g := Nat.lt_of_lt_of_le (World.block_lt_of_cell? _ _ c0') hg'
                clear bb hx hy c0' c1' c2'
                generalize L.b K = z at *
                by_cases cz : z = 2147483647
                · rw [if_pos cz] at nx
                  have R3 : Hid (RC wr d g n m (rcon L (K + 1) r0)) := by show RC _ _ _ _ _ _; rw [nx.out]; exact hR.out
                  subst cz
                  clear hR nx
                  go_wp2_with fail
                  go_roundw
                  case rel => exact ⟨K + 1, by omega, by go_num, R3, hB3⟩
                  case measure => simp [intOf]; omega
                · rw [if_neg cz] at nx
                  have zb : (z != 2147483647) = true := by simpa using cz
                  have ex : wrap64 z = z := by unfold wrap64; omega
                  have ex2 : IntKind.i64.wrap z = z := by rw [IntKind.wrap_i64]; omega
                  have HLK : Hid (∀ w2, Below wr.heap.size wr w2 → _) := fun w2 hb => HLs.out d g x y z _ w2 x8 y8 (hR.out.past hb)
                  have nx2 : Hid (rcon L (K + 1) r0 = lessM (rcon L K r0) x y z) := nx.out
                  have B6 := Below.refl wr.heap.size wr
                  have bg : Hid (∀ w2 w3 o v, Below wr.heap.size wr w2 → Below g w2 w3 → wr.cell? ⟨b, o, none⟩ = some v → w3.cell? ⟨b, o, none⟩ = some v) := fun w2 w3 o v h1 h2 h3 => (h2.cell (p := ⟨b, o, none⟩) hbg).trans (kc _ _ h1 h3)
                  have hF : Hid (∀ w2 w3, Below wr.heap.size wr w2 → Below g w2 w3 → Below w.heap.size w w3) := fun w2 w3 h1 h2 => (beyondD hB3.out h1).trans (h2.mono hg')
                  clear hR nx
                  go_upto_region 20 with (fail)
                  go_region_held3 (fun w2 => w2.cell? ⟨b, off + K * 3, none⟩ = some (.int .i64 x) ∧ w2.cell? ⟨b, off + K * 3 + 1, none⟩ = some (.int .i64 y) ∧ w2.cell? ⟨b, off + K * 3 + 2, none⟩ = some (.int .i32 z))
                    (first | (refine ⟨?_, ?_, ?_⟩ <;> with_reducible assumption) | go_keep)
                    (first | (go_at_call 86; refine (HLK.out _ (by first | with_reducible assumption | with_reducible exact Below.drew (by with_reducible assumption))).mono ?_; rintro e' w7 ⟨rfl, hR7, hb7, -⟩; have s0 := bg.out _ _ _ _ (by first | with_reducible assumption | with_reducible exact Below.drew (by with_reducible assumption)) hb7 c0; have s1 := bg.out _ _ _ _ (by first | with_reducible assumption | with_reducible exact Below.drew (by with_reducible assumption)) hb7 c1; have s2 := bg.out _ _ _ _ (by first | with_reducible assumption | with_reducible exact Below.drew (by with_reducible assumption)) hb7 c2; have s4 := hideD (hF.out _ _ (by first | with_reducible assumption | with_reducible exact Below.drew (by with_reducible assumption)) hb7)))
                  all_goals
                    have R7 : Hid (RC w7 d g n m (rcon L (K + 1) r0)) := by show RC _ _ _ _ _ _; rw [nx2.out]; exact hR7
                    clear hR7 hb7 s0 s1 s2 B6 bg hF HLK nx2 c0 c1 c2
                    go_wp2_with fail
                    go_roundw
                    case rel => exact ⟨K + 1, by omega, by go_num, R7, s4⟩
                    case measure => simp [intOf]; omega
              · have eK : K = J := by omega
                subst eK
                have HSK := hideD (HSh.out d g _ wr hR.out OK.out.1 OK.out.2.1)
                have FO2 : Hid (∀ w' e, ShutOut w' n m e (rcon L K r0) → RconOut w' n m e L o) := fun w' e h => FO.out w' e (by rw [← OK.out.2.2]; exact h)
                clear FO OK
                go_wp2_with fail
                refine HSK.out.mono ?_
                rintro e w3 ⟨⟨p', k', rfl, ho⟩, hb⟩
                have FIN := hideD (FO2.out _ _ ho.out)
                have B3 := hideD (hB3.out.trans (hb.out.mono hg'))
                clear ho hb HSK
                go_wp2_with fail
                exact bodyPost_ret (v := .tuple #[.pointer p', .int .i64 k']) (by simp [results, Tryd.results28, go_sem]) rfl ⟨FIN.out, B3.out⟩
end Go.Proofs.YtfffcmelkdmjaaaDoor

/-
  Limits: both ways of Constrain are one, in numbers; both tell the same.
-/
namespace Go.Proofs.YtfffcmelkdmjaaaDoor
open Go.RowKit
set_option linter.unusedVariables false
set_option maxRecDepth 100000
theorem limK_right {n : Nat} {L : Lims} {M : Mat} (h : RightM n M) : ∀ K, bndA n L K = true → rgtA L K = true → RightM n (limK L K M)
  | 0, _, _ => h
  | K + 1, hb, hr => fun i j hi hj => by
    have hb' : bndA n L K = true := by simp only [bndA, Bool.and_eq_true] at hb; exact hb.1
    have hr' : rgtA L K = true ∧ rightB (L.b K) = true := by simpa only [rgtA, Bool.and_eq_true] using hr
    have ih := limK_right h K hb' hr'.1 i j hi hj
    have rb := hr'.2
    simp only [rightB, decide_eq_true_eq] at rb
    have e : limK L (K + 1) M i j = limM (limK L K M) (L.i K).toNat (L.j K).toNat (L.b K) i j := rfl
    rw [e]
    unfold limM upd
    clear e
    split
    · rename_i e
      obtain ⟨rfl, rfl⟩ := e
      omega
    · exact ih
theorem tg_min {s x z : Int} (hz : ¬ z = 2147483647) (hx : x = 2147483647 ∨ x ≤ 536870913) (z1 : z ≤ 536870913) : tgV s (min x z) = if z < tgV s x then z else tgV s x := by
  unfold tgV
  rw [if_neg (by omega)]
  by_cases e : x = 2147483647
  · rw [if_pos e]
    split <;> omega
  · rw [if_neg e]
    split <;> omega
/-- The draft with limits, cell by cell. -/
theorem con_cells {n m : Nat} {L : Lims} {p : Mat} {c : Row} (hn : n ≤ 8) (hm : m = (n + 1) * (n + 1)) (h : FullC n m p c) : ∀ K, bndA n L K = true → rgtA L K = true → ∀ i j, i ≤ n → j ≤ n → tgV (startV i j) (limK L K (oR n c m) i j) = rcon L K (rowMat n (listOf c m)) i j
  | 0, _, _, i, j, hi, hj => by
    show tgV (startV i j) (oR n c m i j) = rowMat n (listOf c m) i j
    rw [h.pm hm hi hj, h.rowMat hm hi hj]
  | K + 1, hb, hr, i, j, hi, hj => by
    have hb' : bndA n L K = true ∧ bndB n L K = true := by simpa only [bndA, Bool.and_eq_true] using hb
    have hr' : rgtA L K = true ∧ rightB (L.b K) = true := by simpa only [rgtA, Bool.and_eq_true] using hr
    have ih := con_cells hn hm h K hb'.1 hr'.1
    have rM := limK_right (h.rightM hm) K hb'.1 hr'.1
    have rb := hr'.2
    have bb := hb'.2
    simp only [rightB, decide_eq_true_eq] at rb
    simp only [bndB, decide_eq_true_eq] at bb
    have a1 : (L.i K).toNat ≤ n := by omega
    have a2 : (L.j K).toNat ≤ n := by omega
    show tgV _ (limM (limK L K (oR n c m)) (L.i K).toNat (L.j K).toNat (L.b K) i j) = (if L.b K = 2147483647 then rcon L K (rowMat n (listOf c m)) else lessM (rcon L K (rowMat n (listOf c m))) (L.i K).toNat (L.j K).toNat (L.b K)) i j
    generalize (L.i K).toNat = x at *
    generalize (L.j K).toNat = y at *
    generalize L.b K = z at *
    generalize limK L K (oR n c m) = M at *
    generalize rcon L K (rowMat n (listOf c m)) = R at *
    have mxy := rM x y a1 a2
    unfold limM upd
    by_cases cz : z = 2147483647
    · rw [if_pos cz]
      split
      · rename_i e
        obtain ⟨rfl, rfl⟩ := e
        rw [show min (M i j) z = M i j by omega]
        exact ih i j hi hj
      · exact ih i j hi hj
    · rw [if_neg cz]
      split
      · rename_i e
        obtain ⟨rfl, rfl⟩ := e
        rw [tg_min cz (by omega) (by omega), ih i j hi hj]
        unfold lessM
        split
        · unfold upd; rw [if_pos ⟨rfl, rfl⟩]
        · rfl
      · rename_i e
        rw [ih i j hi hj]
        unfold lessM
        split
        · unfold upd; rw [if_neg e]
        · rfl
theorem con_same {n m : Nat} {L : Lims} {p : Mat} {c : Row} (hn : n ≤ 8) (hm : m = (n + 1) * (n + 1)) (h : FullC n m p c) (hb : bndA n L L.q = true) (hr : rgtA L L.q = true) :
    Ok n (rcon L L.q (rowMat n (listOf c m))) ∧ (∀ j, j ≤ n → rcon L L.q (rowMat n (listOf c m)) 0 j ≤ 1) ∧ zoneR n (rcon L L.q (rowMat n (listOf c m))) = zoneR n (drf n m (rowsL n (limK L L.q (oR n c m)) (n + 1))) := by
  have R := limK_right (h.rightM hm) L.q hb hr
  have e : ∀ i j, i ≤ n → j ≤ n → drf n m (rowsL n (limK L L.q (oR n c m)) (n + 1)) i j = rcon L L.q (rowMat n (listOf c m)) i j := fun i j hi hj => by
    rw [pm_at n m _ hm hi hj, con_cells hn hm h L.q hb hr i j hi hj]
  have O := drf_ok n m _ hm (right_rows hm R)
  have O2 : Ok n (rcon L L.q (rowMat n (listOf c m))) := ⟨fun i j hi hj => by rw [← e i j hi hj]; exact O.fin i j hi hj, fun i hi => by rw [← e i i hi hi]; exact O.diag i hi⟩
  refine ⟨O2, fun j hj => by rw [← e 0 j (by omega) hj]; exact drf_low n m _ hm j hj, ?_⟩
  refine zone_same hn O2 O fun q hq => ⟨fun hl i j hi hj => ?_, fun hl i j hi hj => ?_⟩
  · rw [e i j hi hj]; exact hl i j hi hj
  · rw [← e i j hi hj]; exact hl i j hi hj
theorem limK_zero {L : Lims} {M : Mat} (h : M 0 0 ≤ 0) : ∀ K, limK L K M 0 0 ≤ 0
  | 0 => h
  | K + 1 => by
    have ih := limK_zero (L := L) h K
    show limM (limK L K M) _ _ _ 0 0 ≤ 0
    unfold limM upd
    split
    · rename_i e
      rw [← e.1, ← e.2]
      omega
    · exact ih
theorem pm_hollow' {n m : Nat} {M : Mat} (hm : m = (n + 1) * (n + 1)) (h : M 0 0 ≤ 0) : zoneR n (drf n m (rowsL n M (n + 1))) = some (fun _ => 0) := by
  refine zone_hollow ?_
  rw [pm_at n m M hm (by omega) (by omega)]
  unfold tgV
  rw [if_neg (by omega)]
  omega
/-- Limits, by both ways. -/
theorem two_con {w : World} {p q ad : Option Addr} {o : OZ} {L : Lims} {g cap cap' : Nat} (h1 : PZ w p o) (h2 : RZ w q o) (h3 : ZCo o) (hV : LimV w (some ⟨g, 0, none⟩) L) (hg : g < w.heap.size) (hV' : LimV w ad L) (hi : ∀ k, k < L.q → -2147483648 ≤ L.b k ∧ L.b k ≤ 2147483647) (hq : L.q ≤ 9223372036854775807) :
    Two w 27 #[.pointer p, .slice (some ⟨g, 0, none⟩) L.q cap] 28 #[.pointer q, .slice ad L.q cap'] := by
  cases o with
  | none =>
    obtain rfl := h1
    obtain rfl := h2
    exact two_err 1 (fun w' _ => same_w (con_nil _ w')) (fun w' _ => same_w (rcon_nil _ w'))
  | some x =>
    obtain ⟨n, c⟩ := x
    obtain ⟨hn, h32, b, rfl, hZ⟩ := h1
    obtain ⟨-, r, B, rfl, hR⟩ := h2
    have C1 : ∀ w', Below w.heap.size w w' → _ := fun w' hb => con_main b n g 0 cap c L w' hn (hZ.past hb) h32 (hV.past hb).row (Nat.lt_of_lt_of_le hg hb.size) hi hq
    have C2 : ∃ o', (bndA n L L.q = true → rgtA L L.q = true → RightM n (limK L L.q (oR n c ((n + 1) * (n + 1)))) ∧ zoneR n (drf n ((n + 1) * (n + 1)) (rowsL n (limK L L.q (oR n c ((n + 1) * (n + 1)))) (n + 1))) = o') ∧ ∀ w', Below w.heap.size w w' → Calls Tryd.prog 28 #[.pointer (some ⟨r, 0, none⟩), .slice ad L.q cap'] w' fun e w'' => RconOut w'' n ((n + 1) * (n + 1)) e L o' ∧ Below w'.heap.size w' w'' := by
      rcases h3 n c rfl with rfl | ⟨pm, hp⟩
      · refine ⟨some fun _ => 0, fun hb hr => ⟨limK_right (fun i j hi hj => by rw [oR_zero]; exact right0) _ hb hr, pm_hollow' rfl (limK_zero (by rw [oR_zero]; exact Int.le_refl _) _)⟩, fun w' hb => rcon_any r n _ B cap' ad L _ _ w' hn rfl (hR.past hb) (hV'.past hb) hi hq (.inl ⟨rfl, rfl⟩)⟩
      · refine ⟨_, fun hb hr => ⟨limK_right (hp.rightM rfl) _ hb hr, rfl⟩, fun w' hb => rcon_any r n _ B cap' ad L c _ w' hn rfl (hR.past hb) (hV'.past hb) hi hq (.inr ⟨pm, hp, h32, fun hb hr => con_same hn rfl hp hb hr⟩)⟩
    obtain ⟨o', hE, C2⟩ := C2
    cases cb : bndA n L L.q with
    | false =>
      refine two_err 12 (fun w' hb => (C1 w' hb).mono fun e w'' ⟨h, hb'⟩ => ⟨?_, hb'⟩) (fun w' hb => (C2 w' hb).mono fun e w'' ⟨h, hb'⟩ => ⟨?_, hb'⟩)
      · rcases h with ⟨-, h⟩ | ⟨h, -⟩ | ⟨h, -⟩
        · exact h
        · rw [cb] at h; cases h
        · rw [cb] at h; cases h
      · rcases h with ⟨-, h⟩ | ⟨h, -⟩ | ⟨h, -⟩
        · exact h
        · rw [cb] at h; cases h
        · rw [cb] at h; cases h
    | true =>
      cases cr : rgtA L L.q with
      | false =>
        refine two_err 2 (fun w' hb => (C1 w' hb).mono fun e w'' ⟨h, hb'⟩ => ⟨?_, hb'⟩) (fun w' hb => (C2 w' hb).mono fun e w'' ⟨h, hb'⟩ => ⟨?_, hb'⟩)
        · rcases h with ⟨h, -⟩ | ⟨-, -, h⟩ | ⟨-, h, -⟩
          · rw [cb] at h; cases h
          · exact h
          · rw [cr] at h; cases h
        · rcases h with ⟨h, -⟩ | ⟨-, -, h⟩ | ⟨-, h, -⟩
          · rw [cb] at h; cases h
          · exact h
          · rw [cr] at h; cases h
      | true =>
        obtain ⟨e1, e2⟩ := hE cb cr
        refine two_zone hn rfl e1 e2 (fun w' hb => (C1 w' hb).mono fun e w'' ⟨h, hb'⟩ => ⟨?_, hb'⟩) (fun w' hb => (C2 w' hb).mono fun e w'' ⟨h, hb'⟩ => ⟨?_, hb'⟩)
        · rcases h with ⟨h, -⟩ | ⟨-, h, -⟩ | ⟨-, -, h⟩
          · rw [cb] at h; cases h
          · rw [cr] at h; cases h
          · exact h
        · rcases h with ⟨h, -⟩ | ⟨-, h, -⟩ | ⟨-, -, h⟩
          · rw [cb] at h; cases h
          · rw [cr] at h; cases h
          · exact h
end Go.Proofs.YtfffcmelkdmjaaaDoor
