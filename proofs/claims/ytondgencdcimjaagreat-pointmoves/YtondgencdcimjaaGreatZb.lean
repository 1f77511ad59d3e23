/-
  gnomonmem.HandGuards: a copy with marked room behind its end; SameGuards, KeptGuards.
-/
import Derived.Test.YtondgencdcimjaaGreatPtKz
import Derived.Deep.OwnRows
import Derived.Test.YtondgencdcimjaaGreatPtOz
import Derived.Lib.SmallJoins
namespace Go.Proofs.YtondgencdcimjaaGreat
open Go.RowKit
set_option linter.unusedVariables false
/-- Guards: how many; clock, other, comparison, number. -/
structure Guas where
  q : Nat
  a : Nat → Int
  o : Nat → Int
  k : Nat → Int
  n : Nat → Int
/-- Guards behind a slice's address. -/
def GuaV (w : World) (ad : Option Addr) (L : Guas) : Prop := ∀ k, k < L.q → ∃ b off, ad = some ⟨b, off, none⟩ ∧ w.cell? ⟨b, off + k * 4, none⟩ = some (.int .i64 (L.a k)) ∧ w.cell? ⟨b, off + k * 4 + 1, none⟩ = some (.int .i64 (L.o k)) ∧ w.cell? ⟨b, off + k * 4 + 2, none⟩ = some (.int .u8 (L.k k)) ∧ w.cell? ⟨b, off + k * 4 + 3, none⟩ = some (.int .i64 (L.n k))
theorem GuaV.past {w w' : World} {ad : Option Addr} {L : Guas} (h : GuaV w ad L) (hb : Below w.heap.size w w') : GuaV w' ad L := fun k hk => by
  obtain ⟨b, off, e, c1, c2, c3, c4⟩ := h k hk
  exact ⟨b, off, e, kc _ _ hb c1, kc _ _ hb c2, kc _ _ hb c3, kc _ _ hb c4⟩
def roomyG (L : Guas) : Guas := ⟨L.q + 9, fun k => if k < L.q then L.a k else 0, fun k => if k < L.q then L.o k else 0, fun k => if k < L.q then L.k k else 0, fun k => if k < L.q then L.n k else -700 - ((k - L.q : Nat) : Int)⟩
theorem roomyG_front {w : World} {ad : Option Addr} {L : Guas} (h : GuaV w ad (roomyG L)) : GuaV w ad L := fun k hk => by
  obtain ⟨b, off, e, c1, c2, c3, c4⟩ := h k (by show k < L.q + 9; omega)
  simp only [roomyG, hk, if_true] at c1 c2 c3 c4
  exact ⟨b, off, e, c1, c2, c3, c4⟩
def cv4 (L : Guas) (j : Nat) : Value := if j % 4 = 0 then .int .i64 (L.a (j / 4)) else if j % 4 = 1 then .int .i64 (L.o (j / 4)) else if j % 4 = 2 then .int .u8 (L.k (j / 4)) else .int .i64 (L.n (j / 4))
def zr4 (j : Nat) : Value := if j % 4 = 0 then .int .i64 0 else if j % 4 = 1 then .int .i64 0 else if j % 4 = 2 then .int .u8 0 else .int .i64 0
def fill4 (L : Guas) (K j : Nat) : Value := if j < K * 4 then cv4 L j else zr4 j
theorem fill4_next (L : Guas) (K j : Nat) : fill4 L (K + 1) j = if j = K * 4 + 3 then .int .i64 (L.n K) else if j = K * 4 + 2 then .int .u8 (L.k K) else if j = K * 4 + 1 then .int .i64 (L.o K) else if j = K * 4 then .int .i64 (L.a K) else fill4 L K j := by
  unfold fill4 cv4
  by_cases c3 : j = K * 4 + 3
  · subst c3
    rw [if_pos rfl, if_pos (by omega), if_neg (by omega), if_neg (by omega), if_neg (by omega), show (K * 4 + 3) / 4 = K by omega]
  · rw [if_neg c3]
    by_cases c2 : j = K * 4 + 2
    · subst c2
      rw [if_pos rfl, if_pos (by omega), if_neg (by omega), if_neg (by omega), if_pos (by omega), show (K * 4 + 2) / 4 = K by omega]
    · rw [if_neg c2]
      by_cases c1 : j = K * 4 + 1
      · subst c1
        rw [if_pos rfl, if_pos (by omega), if_neg (by omega), if_pos (by omega), show (K * 4 + 1) / 4 = K by omega]
      · rw [if_neg c1]
        by_cases c0 : j = K * 4
        · subst c0
          rw [if_pos rfl, if_pos (by omega), if_pos (by omega), show (K * 4) / 4 = K by omega]
        · rw [if_neg c0]
          by_cases l : j < K * 4
          · rw [if_pos l, if_pos (by omega)]
          · rw [if_neg l, if_neg (by omega)]
theorem fill4_row {L : Guas} {w : World} {g : Nat} (h : ∀ j, j < L.q * 4 → w.cell? ⟨g, j, none⟩ = some (fill4 L L.q j)) : GuaV w (some ⟨g, 0, none⟩) L := fun k hk => by
  have h0 := h (k * 4) (by omega)
  have h1 := h (k * 4 + 1) (by omega)
  have h2 := h (k * 4 + 2) (by omega)
  have h3 := h (k * 4 + 3) (by omega)
  unfold fill4 cv4 at h0 h1 h2 h3
  rw [if_pos (by omega), if_pos (by omega), show (k * 4) / 4 = k by omega] at h0
  rw [if_pos (by omega), if_neg (by omega), if_pos (by omega), show (k * 4 + 1) / 4 = k by omega] at h1
  rw [if_pos (by omega), if_neg (by omega), if_neg (by omega), if_pos (by omega), show (k * 4 + 2) / 4 = k by omega] at h2
  rw [if_pos (by omega), if_neg (by omega), if_neg (by omega), if_neg (by omega), show (k * 4 + 3) / 4 = k by omega] at h3
  exact ⟨g, 0, rfl, by rw [Nat.zero_add]; exact h0, by rw [Nat.zero_add]; exact h1, by rw [Nat.zero_add]; exact h2, by rw [Nat.zero_add]; exact h3⟩
theorem info_gua : (Tryz.prog.info? 88).map (fun i => (i.zero, i.size, i.bytes)) = some (some (.agg #[.int .i64 0, .int .i64 0, .int .u8 0, .int .i64 0]), 4, 32) := by kernel_rfl
theorem make_guas (N : Nat) (hb : 32 * N ≤ 281474976710656) (w : World) :
    (Instr.makeSlice 25 (.int .i64 (N : Int)) (.int .i64 (N : Int))).run Tryz.prog w = .ok (.slice (some ⟨w.heap.size, 0, none⟩) N N) (w.alloc (.cells (madeCells #[.int .i64 0, .int .i64 0, .int .u8 0, .int .i64 0] (N * 4)) 88)) := by
  obtain ⟨i, hi, hzz⟩ := Option.map_eq_some_iff.1 info_gua
  simp only [Prod.mk.injEq] at hzz
  obtain ⟨hz, hs, hb'⟩ := hzz
  have hB : (i.bytes : Int) * (N : Int) ≤ 281474976710656 := by rw [hb']; omega
  have hr := run_make (P := Tryz.prog) w 25 88 i _ Tryz.underlying25 hi hz .i64 .i64 N N (by omega) (Int.le_refl _) hB (by omega)
  simp only [Int.toNat_natCast, hs] at hr
  exact hr
theorem made_fill4 (L : Guas) (N : Nat) (w : World) (T : TypeId) : ∀ j, j < N * 4 → (w.alloc (.cells (madeCells #[.int .i64 0, .int .i64 0, .int .u8 0, .int .i64 0] (N * 4)) T)).cell? ⟨w.heap.size, j, none⟩ = some (fill4 L 0 j) := fun j hj => by
  rw [World.cell?_alloc_at _ _ _ _ rfl]
  have : j % 4 = 0 ∨ j % 4 = 1 ∨ j % 4 = 2 ∨ j % 4 = 3 := by omega
  rcases this with h | h | h | h <;> simp [madeCells, hj, fill4, zr4, h]
/-- Four stores into the call's own block. -/
def set4 (w : World) (g o : Nat) (x y z t : Int) : World := (((w.setCell ⟨g, o, none⟩ (.int .i64 x)).setCell ⟨g, o + 1, none⟩ (.int .i64 y)).setCell ⟨g, o + 2, none⟩ (.int .u8 z)).setCell ⟨g, o + 3, none⟩ (.int .i64 t)
theorem fill4_set {w : World} {g N K : Nat} {L : Guas} (hK : K < N) (h : ∀ j, j < N * 4 → w.cell? ⟨g, j, none⟩ = some (fill4 L K j)) :
    ∀ j, j < N * 4 → (set4 w g (K * 4) (L.a K) (L.o K) (L.k K) (L.n K)).cell? ⟨g, j, none⟩ = some (fill4 L (K + 1) j) := fun j hj => by
  rw [fill4_next]
  unfold set4
  have h1 : (w.setCell ⟨g, K * 4, none⟩ (.int .i64 (L.a K))).cell? ⟨g, K * 4 + 1, none⟩ = some (fill4 L K (K * 4 + 1)) := by
    rw [World.cell?_setCell_other _ _ _ _ (by intro e; injection e; omega)]
    exact h _ (by omega)
  have h2 : ((w.setCell ⟨g, K * 4, none⟩ (.int .i64 (L.a K))).setCell ⟨g, K * 4 + 1, none⟩ (.int .i64 (L.o K))).cell? ⟨g, K * 4 + 2, none⟩ = some (fill4 L K (K * 4 + 2)) := by
    rw [World.cell?_setCell_other _ _ _ _ (by intro e; injection e; omega), World.cell?_setCell_other _ _ _ _ (by intro e; injection e; omega)]
    exact h _ (by omega)
  have h3 : (((w.setCell ⟨g, K * 4, none⟩ (.int .i64 (L.a K))).setCell ⟨g, K * 4 + 1, none⟩ (.int .i64 (L.o K))).setCell ⟨g, K * 4 + 2, none⟩ (.int .u8 (L.k K))).cell? ⟨g, K * 4 + 3, none⟩ = some (fill4 L K (K * 4 + 3)) := by
    rw [World.cell?_setCell_other _ _ _ _ (by intro e; injection e; omega), World.cell?_setCell_other _ _ _ _ (by intro e; injection e; omega), World.cell?_setCell_other _ _ _ _ (by intro e; injection e; omega)]
    exact h _ (by omega)
  by_cases b : j = K * 4 + 3
  · subst b
    rw [World.cell?_setCell_same _ _ _ h3, if_pos rfl]
  · rw [World.cell?_setCell_other _ _ _ _ (by intro e; injection e; omega), if_neg b]
    by_cases c : j = K * 4 + 2
    · subst c
      rw [World.cell?_setCell_same _ _ _ h2, if_pos rfl]
    · rw [World.cell?_setCell_other _ _ _ _ (by intro e; injection e; omega), if_neg c]
      by_cases d : j = K * 4 + 1
      · subst d
        rw [World.cell?_setCell_same _ _ _ h1, if_pos rfl]
      · rw [World.cell?_setCell_other _ _ _ _ (by intro e; injection e; omega), if_neg d]
        by_cases e : j = K * 4
        · subst e
          rw [World.cell?_setCell_same _ _ _ (h _ hj), if_pos rfl]
        · rw [World.cell?_setCell_other _ _ _ _ (by intro e; injection e; omega), if_neg e]
          exact h j hj
theorem set4_frozen (w : World) (g o : Nat) (x y z t : Int) (p : Addr) : (set4 w g o x y z t).frozen? p = w.frozen? p := by
  unfold set4
  rw [World.frozen?_setCell, World.frozen?_setCell, World.frozen?_setCell, World.frozen?_setCell]
theorem set4_below {w0 w : World} {g o : Nat} {x y z t : Int} {B : Nat} (h : Below B w0 w) (hg : B ≤ g) : Below B w0 (set4 w g o x y z t) := (((h.setCell (p := ⟨g, o, none⟩) hg _).setCell (p := ⟨g, o + 1, none⟩) hg _).setCell (p := ⟨g, o + 2, none⟩) hg _).setCell (p := ⟨g, o + 3, none⟩) hg _
theorem set4_size (w : World) (g o : Nat) (x y z t : Int) : (set4 w g o x y z t).heap.size = w.heap.size := by simp [set4, World.setCell]
set_option maxRecDepth 100000 in
set_option maxHeartbeats 4000000 in
theorem hand_guas (ad : Option Addr) (cap : Nat) (L : Guas) (w : World) (hR : GuaV w ad L) (hq : L.q * 32 ≤ 140737488355328) :
    Calls Tryz.prog 11 #[.slice ad L.q cap] w fun e w' => e = .returned (.slice (some ⟨w.heap.size, 0, none⟩) L.q (L.q + 9)) ∧ GuaV w' (some ⟨w.heap.size, 0, none⟩) (roomyG L) ∧ w.heap.size < w'.heap.size ∧ Below w.heap.size w w' := by
  have hmk := make_guas (L.q + 9) (by omega)
  have HR := hideD hR
  have E1 : Hid (∀ k, k < L.q → (roomyG L).a k = L.a k ∧ (roomyG L).o k = L.o k ∧ (roomyG L).k k = L.k k ∧ (roomyG L).n k = L.n k) := fun k hk => by simp [roomyG, hk]
  have E2 : Hid (∀ k, L.q ≤ k → (roomyG L).a k = 0 ∧ (roomyG L).o k = 0 ∧ (roomyG L).k k = 0 ∧ (roomyG L).n k = -700 - ((k - L.q : Nat) : Int)) := fun k hk => by simp [roomyG, Nat.not_lt.2 hk]
  have E3 : Hid ((roomyG L).q = L.q + 9) := rfl
  have F0 := hideD (made_fill4 (roomyG L) (L.q + 9) w 88)
  clear hR
  generalize hm : L.q = m at *
  have HM := hideD hm
  clear hm
  have e0 : IntKind.i64.wrap ((m : Int) + 9) = ((m + 9 : Nat) : Int) := by rw [IntKind.wrap_i64]; omega
  generalize hN : m + 9 = N at *
  have HN := hideD hN
  clear hN
  have m1 : (m : Int) ≤ 9223372036854775807 := by omega
  go_enter Tryz.func11, Tryz.ntmps11
  go_wp2_with fail
  have Z0 : Hid (∀ j, (w.alloc (.cells (madeCells #[.int .i64 0, .int .i64 0, .int .u8 0, .int .i64 0] (N * 4)) 88)).frozen? ⟨w.heap.size, j, none⟩ = false) := fun j => by simp [go_sem]
  have B0 := hideD (below_one w (.cells (madeCells #[.int .i64 0, .int .i64 0, .int .u8 0, .int .i64 0] (N * 4)) 88))
  have S0 : Hid (w.heap.size < (w.alloc (.cells (madeCells #[.int .i64 0, .int .i64 0, .int .u8 0, .int .i64 0] (N * 4)) 88)).heap.size) := by show _ < _; simp
  generalize w.alloc (.cells (madeCells #[.int .i64 0, .int .i64 0, .int .u8 0, .int .i64 0] (N * 4)) 88) = W at *
  clear hmk
  go_loopw [4] (fun s wr => ∃ (K : Nat), K ≤ m ∧ s = .int .i64 K ∧ Hid (∀ j, j < N * 4 → wr.cell? ⟨w.heap.size, j, none⟩ = some (fill4 (roomyG L) K j)) ∧ Hid (∀ j, wr.frozen? ⟨w.heap.size, j, none⟩ = false) ∧ Hid (w.heap.size < wr.heap.size) ∧ Hid (Below w.heap.size w wr)) (fun s _ => m - (intOf s).toNat)
  case atStart => exact ⟨0, by omega, rfl, F0, Z0, S0, B0⟩
  case round =>
    obtain ⟨K, hK, rfl, F, Z, Sz, B⟩ := hrel
    clear F0 Z0 B0 S0
    by_cases ck : K < m
    · obtain ⟨b, off, rfl, c1', c2', c3', c4'⟩ := HR.out K (by rw [HM.out]; exact ck)
      have c1 := kc _ _ B.out c1'
      have c2 := kc _ _ B.out c2'
      have c3 := kc _ _ B.out c3'
      have c4 := kc _ _ B.out c4'
      clear c1' c2' c3' c4'
      have kN : K < N := by have := HN.out; omega
      have FN := hideD (fill4_set kN F.out)
      obtain ⟨x0, x1, x2, x3⟩ := E1.out K ck
      rw [x0, x1, x2, x3] at FN
      have z0 := Z.out (K * 4)
      have z1 := Z.out (K * 4 + 1)
      have z2 := Z.out (K * 4 + 2)
      have z3 := Z.out (K * 4 + 3)
      have y0 := F.out (K * 4) (by omega)
      have y1 := F.out (K * 4 + 1) (by omega)
      have y2 := F.out (K * 4 + 2) (by omega)
      have y3 := F.out (K * 4 + 3) (by omega)
      generalize L.a K = x at *
      generalize L.o K = y at *
      generalize L.k K = z at *
      generalize L.n K = t at *
      have ZN : Hid (∀ j, (set4 wr w.heap.size (K * 4) x y z t).frozen? ⟨w.heap.size, j, none⟩ = false) := fun j => by rw [set4_frozen]; exact Z.out j
      have BN : Hid (Below w.heap.size w (set4 wr w.heap.size (K * 4) x y z t)) := set4_below B.out (Nat.le_refl _)
      have SN : Hid (w.heap.size < (set4 wr w.heap.size (K * 4) x y z t).heap.size) := by show _ < _; rw [set4_size]; exact Sz.out
      have k0 : (0 : Int) ≤ (K : Int) := by omega
      have k1 : (K : Int) < (m : Int) := by omega
      have k2 : (K : Int) < (N : Int) := by omega
      clear F Z Sz B
      go_wp2_with fail
      go_roundw
      case rel => exact ⟨K + 1, by omega, by go_num, FN, ZN, SN, BN⟩
      case measure => simp [intOf]; omega
    · have e : K = m := by omega
      subst e
      have k1 : decide ((K : Int) < (K : Int)) = false := by simp
      go_wp2_with fail
      go_loopw [5] (fun s wr => ∃ (J : Nat), K ≤ J ∧ J ≤ N ∧ s = .int .i64 J ∧ Hid (∀ j, j < N * 4 → wr.cell? ⟨w.heap.size, j, none⟩ = some (fill4 (roomyG L) J j)) ∧ Hid (∀ j, wr.frozen? ⟨w.heap.size, j, none⟩ = false) ∧ Hid (w.heap.size < wr.heap.size) ∧ Hid (Below w.heap.size w wr)) (fun s _ => N - (intOf s).toNat)
      case atStart => exact ⟨K, by omega, by have := HN.out; omega, rfl, F, Z, Sz, B⟩
      case round =>
        obtain ⟨J, hJ, hJN, rfl, F', Z', S', B'⟩ := hrel
        clear F Z Sz B
        by_cases cj : J < N
        · have FN := hideD (fill4_set cj F'.out)
          obtain ⟨x0, x1, x2, x3⟩ := E2.out J hJ
          rw [x0, x1, x2, x3] at FN
          have z0 := Z'.out (J * 4)
          have z1 := Z'.out (J * 4 + 1)
          have z2 := Z'.out (J * 4 + 2)
          have z3 := Z'.out (J * 4 + 3)
          have y0 := F'.out (J * 4) (by omega)
          have y1 := F'.out (J * 4 + 1) (by omega)
          have y2 := F'.out (J * 4 + 2) (by omega)
          have y3 := F'.out (J * 4 + 3) (by omega)
          have e1 : IntKind.i64.wrap (-700 - (J : Int)) = -700 - (J : Int) := by rw [IntKind.wrap_i64]; have := HN.out; omega
          have e2 : IntKind.i64.wrap (-700 - (J : Int) + (K : Int)) = -700 - ((J - K : Nat) : Int) := by rw [IntKind.wrap_i64]; have := HN.out; omega
          have e3 : IntKind.i64.wrap (-700 - ((J - K : Nat) : Int)) = -700 - ((J - K : Nat) : Int) := by rw [IntKind.wrap_i64]; have := HN.out; omega
          generalize -700 - ((J - K : Nat) : Int) = x at *
          have ZN : Hid (∀ j, (set4 wr w.heap.size (J * 4) 0 0 0 x).frozen? ⟨w.heap.size, j, none⟩ = false) := fun j => by rw [set4_frozen]; exact Z'.out j
          have BN : Hid (Below w.heap.size w (set4 wr w.heap.size (J * 4) 0 0 0 x)) := set4_below B'.out (Nat.le_refl _)
          have SN : Hid (w.heap.size < (set4 wr w.heap.size (J * 4) 0 0 0 x).heap.size) := by show _ < _; rw [set4_size]; exact S'.out
          have k0 : (0 : Int) ≤ (J : Int) := by omega
          have k2 : (J : Int) < (N : Int) := by omega
          have k5 : (J : Int) ≤ 9000000000000000000 := by have := HN.out; omega
          clear F' Z' S' B'
          go_wp2_with fail
          go_roundw
          case rel => exact ⟨J + 1, by omega, by omega, by go_num, FN, ZN, SN, BN⟩
          case measure => simp [intOf]; omega
        · have e : J = N := by omega
          subst e
          have FIN := hideD (fill4_row (L := roomyG L) (w := wr) (g := w.heap.size) (by rw [E3.out]; exact F'.out))
          have KN : Hid (K + 9 = J) := HN.out
          have k3 : (K : Int) ≤ (J : Int) := by have := HN.out; omega
          go_wp2_with fail
          go_ret
          exact ⟨rfl, FIN.out, S'.out, B'.out⟩
set_option maxRecDepth 100000 in
set_option maxHeartbeats 4000000 in
theorem same_guas (ad ad' : Option Addr) (cap cap' : Nat) (L : Guas) (w : World) (hV : GuaV w ad L) (hV' : GuaV w ad' L) (hq : L.q ≤ 9223372036854775807) :
    Calls Tryz.prog 52 #[.slice ad L.q cap, .slice ad' L.q cap'] w fun e w' => e = .returned (.bool true) ∧ Below w.heap.size w w' := by
  have HV := hideD hV
  have HV' := hideD hV'
  clear hV hV'
  generalize hm : L.q = m at *
  have HM := hideD hm
  clear hm
  have m0 : ((m : Int) == (m : Int)) = true := by simp
  have B0 := hideD (Below.refl w.heap.size w)
  go_enter Tryz.func52, Tryz.ntmps52
  go_wp2_with fail
  go_loopw [5] (fun s wr => ∃ (J : Nat), J ≤ m ∧ s = .int .i64 J ∧ Hid (Below w.heap.size w wr)) (fun s _ => m - (intOf s).toNat)
  case atStart => exact ⟨0, by omega, rfl, B0⟩
  case round =>
    obtain ⟨J, hJ, rfl, B⟩ := hrel
    clear B0
    by_cases cj : J < m
    · obtain ⟨b, off, rfl, d1, d2, d3, d4⟩ := HV.out J (by rw [HM.out]; exact cj)
      obtain ⟨b', off', rfl, f1, f2, f3, f4⟩ := HV'.out J (by rw [HM.out]; exact cj)
      have c1 := kc _ _ B.out d1
      have c2 := kc _ _ B.out d2
      have c3 := kc _ _ B.out d3
      have c4 := kc _ _ B.out d4
      have g1 := kc _ _ B.out f1
      have g2 := kc _ _ B.out f2
      have g3 := kc _ _ B.out f3
      have g4 := kc _ _ B.out f4
      have k0 : (0 : Int) ≤ (J : Int) := by omega
      have k1 : (J : Int) < (m : Int) := by omega
      clear d1 d2 d3 d4 f1 f2 f3 f4
      generalize L.a J = u at *
      generalize L.o J = v at *
      generalize L.k J = z at *
      generalize L.n J = t at *
      go_wp2_with fail
      go_quiet (fail)
      go_wp2_with fail
      go_roundw
      case rel => exact ⟨J + 1, by omega, by go_num, hideD (by first | exact B.out | exact Below.drew B.out | exact below_drewN B.out _)⟩
      case measure => simp [intOf]; omega
    · have e : J = m := by omega
      subst e
      have k1 : decide ((J : Int) < (J : Int)) = false := by simp
      go_wp2_with fail
      go_ret
      exact ⟨rfl, B.out⟩
set_option maxRecDepth 100000 in
set_option maxHeartbeats 4000000 in
theorem kept_guas (g : Nat) (ad : Option Addr) (cap : Nat) (L : Guas) (w : World) (hV : GuaV w (some ⟨g, 0, none⟩) (roomyG L)) (hV' : GuaV w ad L) (hq : L.q * 32 ≤ 140737488355328) :
    Calls Tryz.prog 17 #[.slice (some ⟨g, 0, none⟩) L.q (L.q + 9), .slice ad L.q cap] w fun e w' => e = .returned (.bool true) ∧ Below w.heap.size w w' := by
  have HS : Hid (∀ w', Below w.heap.size w w' → Calls Tryz.prog 52 #[.slice (some ⟨g, 0, none⟩) L.q (L.q + 9), .slice ad L.q cap] w' fun e w'' => e = .returned (.bool true) ∧ Below w'.heap.size w' w'') := fun w' hb => same_guas _ _ _ _ L w' ((roomyG_front hV).past hb) (hV'.past hb) (by omega)
  have HV : Hid (∀ k, L.q ≤ k → k < L.q + 9 → w.cell? ⟨g, k * 4, none⟩ = some (.int .i64 0) ∧ w.cell? ⟨g, k * 4 + 1, none⟩ = some (.int .i64 0) ∧ w.cell? ⟨g, k * 4 + 2, none⟩ = some (.int .u8 0) ∧ w.cell? ⟨g, k * 4 + 3, none⟩ = some (.int .i64 (-700 - ((k - L.q : Nat) : Int)))) := fun k h1 h2 => by
    obtain ⟨b, off, e, c1, c2, c3, c4⟩ := hV k h2
    injection e with e
    injection e with e1 e2
    subst e1
    subst e2
    simp only [roomyG, Nat.not_lt.2 h1, if_false, Nat.zero_add] at c1 c2 c3 c4
    exact ⟨c1, c2, c3, c4⟩
  clear hV hV'
  generalize hm : L.q = m at *
  have e0 : IntKind.i64.wrap ((m : Int) + 9) = ((m + 9 : Nat) : Int) := by rw [IntKind.wrap_i64]; omega
  generalize hN : m + 9 = N at *
  have HN := hideD hN
  have m1 : (0 : Int) ≤ (N : Int) := by omega
  clear hN hm
  go_enter Tryz.func17, Tryz.ntmps17
  go_wp2_with fail
  refine (HS.out _ (Below.refl _ _)).mono ?_
  rintro e w1 ⟨rfl, hb⟩
  have HB := hideD hb
  clear hb HS
  go_wp2_with fail
  go_loopw [6] (fun s wr => ∃ (J : Nat), m ≤ J ∧ J ≤ N ∧ s = .int .i64 J ∧ Hid (Below w.heap.size w wr)) (fun s _ => N - (intOf s).toNat)
  case atStart => exact ⟨m, by omega, by have := HN.out; omega, rfl, HB⟩
  case round =>
    obtain ⟨J, hJ, hJN, rfl, B⟩ := hrel
    clear HB
    by_cases cj : J < N
    · obtain ⟨d1, d2, d3, d4⟩ := HV.out J hJ cj
      have c1 := kc _ _ B.out d1
      have c2 := kc _ _ B.out d2
      have c3 := kc _ _ B.out d3
      have c4 := kc _ _ B.out d4
      have k0 : (0 : Int) ≤ (J : Int) := by omega
      have k1 : (J : Int) < (N : Int) := by omega
      have k5 : (J : Int) ≤ 9000000000000000000 := by have := HN.out; omega
      have e1 : IntKind.i64.wrap (-700 - (J : Int)) = -700 - (J : Int) := by rw [IntKind.wrap_i64]; have := HN.out; omega
      have e2 : IntKind.i64.wrap (-700 - (J : Int) + (m : Int)) = -700 - ((J - m : Nat) : Int) := by rw [IntKind.wrap_i64]; have := HN.out; omega
      have e3 : IntKind.i64.wrap (-700 - ((J - m : Nat) : Int)) = -700 - ((J - m : Nat) : Int) := by rw [IntKind.wrap_i64]; have := HN.out; omega
      clear d1 d2 d3 d4
      generalize -700 - ((J - m : Nat) : Int) = x at *
      go_wp2_with fail
      go_roundw
      case rel => exact ⟨J + 1, by omega, by omega, by go_num, B⟩
      case measure => simp [intOf]; omega
    · have e : J = N := by omega
      subst e
      have k1 : decide ((J : Int) < (J : Int)) = false := by simp
      go_wp2_with fail
      go_ret
      exact ⟨rfl, B.out⟩
end Go.Proofs.YtondgencdcimjaaGreat

/-
  What PointSpans and its like are handed: a valuation, a delay, two numbers and guards, opened.
-/
namespace Go.Proofs.YtondgencdcimjaaGreat
open Go.RowKit Go.Shelf
open Go.ChangeShapes Go.WideShapes Go.ChangeAt Go.Deep
set_option linter.unusedVariables false
theorem six_of {α : Type} {cs : Array α} (h : cs.size = 6) : ∃ a b c d e f, cs = #[a, b, c, d, e, f] := by
  obtain ⟨l⟩ := cs
  match l, h with
  | [a, b, c, d, e, f], _ => exact ⟨a, b, c, d, e, f, rfl⟩
theorem wts_one {H : Type} {P : Program} {ts : List TypeId} {ds : List (DataW H)} (h : (DataW.weightsEach P ts ds).all (· ≤ reachBytes) = true) {j : Nat} {t : TypeId} {d : DataW H} (ht : ts[j]? = some t) (hd : ds[j]? = some d) : ∀ n ∈ d.weights P t, n ≤ reachBytes := fun n hn => of_decide_eq_true (List.all_eq_true.1 h _ (DataW.weights_mem_each ht hd n hn))
theorem open_moved {H : Type} {enc : TypeId × Value → H} {P : Program} {w : World} {r : Reach} {b0 base : Nat} {spare : Nat → Bool} {held : Bool} {t : TypeId} {f0 f1 f2 f3 f4 q0 q1 : Field} {v : Value} {d : DataW H} {p : List MemPlace}
    (hs : P.underlying t = some (.struct #[f0, f1, f2, f3, f4])) (hC : P.cellsOf t = 6) (o0 : f0.offset = 0) (o1 : f1.offset = 1) (o2 : f2.offset = 3) (o3 : f3.offset = 4) (o4 : f4.offset = 5)
    (c0 : P.cellsOf f0.type = 1) (c1 : P.cellsOf f1.type = 2) (c2 : P.cellsOf f2.type = 1) (c3 : P.cellsOf f3.type = 1) (c4 : P.cellsOf f4.type = 1) (u2 : P.underlying f2.type = some (.int .i64)) (u3 : P.underlying f3.type = some (.int .i64))
    (hD : P.underlying f1.type = some (.struct #[q0, q1])) (p0 : q0.offset = 0) (p1 : q1.offset = 1) (k0 : P.cellsOf q0.type = 1) (k1 : P.cellsOf q1.type = 1) (v0 : P.underlying q0.type = some (.int .i64)) (v1 : P.underlying q1.type = some (.int .i64))
    (hv : Value.okWide P w r b0 t v) (h : DataW.Trod enc P w base spare held t v d p) (hw : ∀ n ∈ d.weights P t, n ≤ reachBytes) :
    ∃ (a g : Value) (dn dd ck nn : Int) (y0 y4 : DataW H × List MemPlace) (n : Nat), v = .agg #[a, .int .i64 dn, .int .i64 dd, .int .i64 ck, .int .i64 nn, g] ∧ (Lit.int .i64 dn).wf = true ∧ (Lit.int .i64 dd).wf = true ∧ (Lit.int .i64 ck).wf = true ∧ (Lit.int .i64 nn).wf = true ∧
      DataW.trod enc P w base spare held n f0.type [a] = some y0 ∧ (∀ n ∈ y0.1.weights P f0.type, n ≤ reachBytes) ∧ DataW.trod enc P w base spare held n f4.type [g] = some y4 ∧ (∀ n ∈ y4.1.weights P f4.type, n ≤ reachBytes) := by
  obtain ⟨cs, rfl, hsz⟩ := okWide_struct hs hv
  obtain ⟨fuel, hf⟩ := h
  obtain ⟨xs, n, _, hx, hl, hlen, hf⟩ := DataW.trod_struct hs hf
  obtain ⟨a, b, c, e, f, g, rfl⟩ := six_of (hsz.trans hC)
  have ed : d = .agg (xs.map (·.1)) := congrArg Prod.fst hx
  have wt : ∀ (i : Nat) fi y, (#[f0, f1, f2, f3, f4] : Array Field)[i]? = some fi → xs[i]? = some y → ∀ k ∈ y.1.weights P fi.type, k ≤ reachBytes := fun i fi y hi hy k hk => hw k (by
    rw [ed]
    simp only [DataW.weights, hs]
    exact DataW.weights_mem_each (j := i) (t := fi.type) (d := y.1) (by rw [List.getElem?_map, Array.getElem?_toList, hi]; rfl) (by rw [List.getElem?_map, hy]; rfl) k hk)
  have ex : ∀ i, i < 5 → ∃ y, xs[i]? = some y := fun i hi => ⟨_, List.getElem?_eq_getElem (by rw [hlen]; exact hi)⟩
  obtain ⟨y0, hy0⟩ := ex 0 (by omega)
  obtain ⟨y1, hy1⟩ := ex 1 (by omega)
  obtain ⟨y2, hy2⟩ := ex 2 (by omega)
  obtain ⟨y3, hy3⟩ := ex 3 (by omega)
  obtain ⟨y4, hy4⟩ := ex 4 (by omega)
  have g0 := hf 0 f0 rfl
  have g1 := hf 1 f1 rfl
  have g2 := hf 2 f2 rfl
  have g3 := hf 3 f3 rfl
  have g4 := hf 4 f4 rfl
  rw [o0, c0, hy0] at g0
  rw [o1, c1, hy1] at g1
  rw [o2, c2, hy2] at g2
  rw [o3, c3, hy3] at g3
  rw [o4, c4, hy4] at g4
  obtain ⟨z0, z1, k, -, -, i0, i1⟩ := trod_struct2 hD g1
  simp [Value.cells, p0, p1, k0, k1] at g0 g2 g3 g4 i0 i1
  obtain ⟨m0, e0, _, wf0⟩ := DataW.trod_int v0 i0
  obtain ⟨m1, e1, _, wf1⟩ := DataW.trod_int v1 i1
  obtain ⟨m2, e2, _, wf2⟩ := DataW.trod_int u2 g2
  obtain ⟨m3, e3, _, wf3⟩ := DataW.trod_int u3 g3
  simp at e0 e1 e2 e3
  subst e0 e1 e2 e3
  exact ⟨a, g, m0, m1, m2, m3, y0, y4, n, rfl, wf0, wf1, wf2, wf3, g0, wt 0 f0 y0 rfl hy0, g4, wt 4 f4 y4 rfl hy4⟩
theorem open_ratsW {H : Type} {enc : TypeId × Value → H} {P : Program} {w : World} {base : Nat} {spare : Nat → Bool} {held : Bool} {t e : TypeId} {f0 f1 : Field} {fuel : Nat} {v : Value} {x : DataW H × List MemPlace}
    (ht : P.underlying t = some (.slice e)) (he : P.underlying e = some (.struct #[f0, f1])) (ce : P.cellsOf e = 2) (o0 : f0.offset = 0) (o1 : f1.offset = 1) (c0 : P.cellsOf f0.type = 1) (c1 : P.cellsOf f1.type = 1)
    (u0 : P.underlying f0.type = some (.int .i64)) (u1 : P.underlying f1.type = some (.int .i64)) (be : P.bytesOf e = 16) (h : DataW.trod enc P w base spare held fuel t [v] = some x) (hw : ∀ n ∈ x.1.weights P t, n ≤ reachBytes) :
    ∃ L : Rats, RatS w v L ∧ (∀ k, k < L.q → (Lit.int .i64 (L.n k)).wf = true ∧ (Lit.int .i64 (L.d k)).wf = true) ∧ L.q * 16 ≤ 140737488355328 := by
  rcases open_rats ht he ce o0 o1 c0 c1 u0 u1 h with hcs | ⟨a, len, cap, ds, ss, L, hcs, hq, hds, hx, hc⟩
  · simp at hcs
    subst hcs
    exact ⟨⟨0, fun _ => 0, fun _ => 0⟩, ⟨_, _, rfl, fun _ => ⟨rfl, rfl⟩, fun k hk => absurd hk (Nat.not_lt_zero _)⟩, fun k hk => absurd hk (Nat.not_lt_zero _), by decide⟩
  · simp at hcs
    subst hcs
    have hs := hw ((ds.length + ss.length) * P.bytesOf e) (by rw [hx]; simp only [DataW.weights, ht]; exact List.mem_cons_self)
    rw [be, hds] at hs
    have hr : reachBytes ≤ 140737488355328 := by decide
    refine ⟨L, ⟨some a, cap, by rw [hq], fun h => (by cases h), fun k hk => ?_⟩, fun k hk => (hc k (by omega)).2.2, by omega⟩
    obtain ⟨bk, off, spot⟩ := a
    obtain ⟨a1, a2, _, _⟩ := hc k (by omega)
    have hspot : spot = none := by simpa [Addr.add] using World.cell?_spot (hc 0 (by omega)).1
    subst hspot
    rw [Go.WideShapes.add_plain] at a1 a2
    exact ⟨bk, off, rfl, a1, by rw [Nat.add_assoc]; exact a2⟩
end Go.Proofs.YtondgencdcimjaaGreat

/-
  Guards that are handed over, opened.
-/
namespace Go.Proofs.YtondgencdcimjaaGreat
open Go.RowKit Go.Shelf
open Go.ChangeShapes Go.WideShapes Go.ChangeAt Go.Deep
set_option linter.unusedVariables false
set_option maxRecDepth 100000
def GuaS (w : World) (v : Value) (L : Guas) : Prop := ∃ ad cap, v = .slice ad L.q cap ∧ GuaV w ad L
theorem open_guas {H : Type} {enc : TypeId × Value → H} {w : World} {base : Nat} {spare : Nat → Bool} {held : Bool} {fuel : Nat} {ad : Option Addr} {len cap : Nat} {x : DataW H × List MemPlace}
    (h : DataW.trod enc Tryz.prog w base spare held fuel 25 (Value.slice ad len cap).cells.toList = some x) :
    ∃ L : Guas, L.q = len ∧ GuaV w ad L ∧ (∀ k, k < L.q → 0 ≤ L.k k ∧ L.k k < 256) ∧ (len = 0 ∨ ∃ ds ss, x.1 = .slice ds ss ∧ ds.length = len) := by
  rcases open_slice Tryz.underlying25 h with ⟨h0, _⟩ | ⟨a, len', cap', m, n, D, Pl, h0, hb, hl, hm, hmm, hx', hx⟩
  · simp [Value.cells] at h0
    obtain ⟨rfl, rfl, rfl⟩ := h0
    exact ⟨⟨0, fun _ => 0, fun _ => 0, fun _ => 0, fun _ => 0⟩, rfl, fun k hk => absurd hk (Nat.not_lt_zero _), fun k hk => absurd hk (Nat.not_lt_zero _), .inl rfl⟩
  · simp [Value.cells] at h0
    obtain ⟨rfl, rfl, rfl⟩ := h0
    have hlm : len ≤ m := by rw [hmm]; split <;> omega
    have ce : Tryz.prog.cellsOf 88 = 4 := by kernel_rfl
    have each : ∀ i, i < len → ∃ q : Int × Int × Int × Int, w.cell? (a.add (i * 4)) = some (.int .i64 q.1) ∧ w.cell? (a.add (i * 4 + 1)) = some (.int .i64 q.2.1) ∧ w.cell? (a.add (i * 4 + 2)) = some (.int .u8 q.2.2.1) ∧ w.cell? (a.add (i * 4 + 3)) = some (.int .i64 q.2.2.2) ∧ (0 ≤ q.2.2.1 ∧ q.2.2.1 < 256) := by
      intro i hi
      obtain ⟨cs', h1, h2⟩ := hx i (by omega)
      rw [ce] at h1
      obtain ⟨_, hlen, hcell⟩ := World.cells?_some h1
      obtain ⟨y0, y1, y2, y3, k, -, -, g0, g1, g2, g3⟩ := Go.Joins.trod_struct4 Tryz.underlying88 h2
      match cs', hlen with
      | [v0, v1, v2, v3], _ =>
        have c0 : Tryz.prog.cellsOf 3 = 1 := by kernel_rfl
        have c1 : Tryz.prog.cellsOf 86 = 1 := by kernel_rfl
        simp [c0, c1] at g0 g1 g2 g3
        obtain ⟨z0, e0, _, _⟩ := DataW.trod_int Tryz.underlying3 g0
        obtain ⟨z1, e1, _, _⟩ := DataW.trod_int Tryz.underlying3 g1
        obtain ⟨z2, e2, _, wf⟩ := DataW.trod_int Tryz.underlying86 g2
        obtain ⟨z3, e3, _, _⟩ := DataW.trod_int Tryz.underlying3 g3
        have k0 := hcell 0 (by omega)
        have k1 := hcell 1 (by omega)
        have k2 := hcell 2 (by omega)
        have k3 := hcell 3 (by omega)
        rw [add_add] at k0 k1 k2 k3
        simp at e0 e1 e2 e3
        subst e0 e1 e2 e3
        have := bounds_u8 wf
        exact ⟨(z0, z1, z2, z3), by simpa using k0, by simpa using k1, by simpa using k2, by simpa using k3, by simp only; omega⟩
    obtain ⟨q, hq⟩ := choose_lt each
    refine ⟨⟨len, fun k => (q k).1, fun k => (q k).2.1, fun k => (q k).2.2.1, fun k => (q k).2.2.2⟩, rfl, fun k hk => ?_, fun k hk => (hq k hk).2.2.2.2, .inr ⟨_, _, by rw [hx'], by simp⟩⟩
    obtain ⟨bk, off, spot⟩ := a
    obtain ⟨c0, c1, c2, c3, -⟩ := hq k hk
    have hk' : k < len := hk
    have hspot : spot = none := by have := World.cell?_spot (hq 0 (by omega)).1; simpa [Addr.add] using this
    subst hspot
    rw [Go.WideShapes.add_plain] at c0 c1 c2 c3
    exact ⟨bk, off, rfl, c0, by rw [Nat.add_assoc]; exact c1, by rw [Nat.add_assoc]; exact c2, by rw [Nat.add_assoc]; exact c3⟩
theorem open_guaV {H : Type} {enc : TypeId × Value → H} {w : World} {base : Nat} {spare : Nat → Bool} {held : Bool} {fuel : Nat} {v : Value} {x : DataW H × List MemPlace}
    (h : DataW.trod enc Tryz.prog w base spare held fuel 25 [v] = some x) (hw : ∀ n ∈ x.1.weights Tryz.prog 25, n ≤ reachBytes) :
    ∃ L : Guas, GuaS w v L ∧ (∀ k, k < L.q → 0 ≤ L.k k ∧ L.k k < 256) ∧ L.q * 32 ≤ 140737488355328 := by
  obtain ⟨ad, len, cap, rfl⟩ : ∃ ad len cap, v = .slice ad len cap := by
    rcases open_slice Tryz.underlying25 h with ⟨h0, _⟩ | ⟨a, len', cap', m, n, D, Pl, h0, _⟩
    · simp at h0; exact ⟨_, _, _, h0⟩
    · simp at h0; exact ⟨_, _, _, h0⟩
  obtain ⟨L, h1, h2, h3, h4⟩ := open_guas (ad := ad) (len := len) (cap := cap) h
  refine ⟨L, ⟨ad, cap, by rw [h1], h2⟩, h3, ?_⟩
  rcases h4 with h4 | ⟨ds, ss, hx, hds⟩
  · omega
  · have hb : Tryz.prog.bytesOf 88 = 32 := by kernel_rfl
    have := hw ((ds.length + ss.length) * Tryz.prog.bytesOf 88) (by rw [hx]; simp only [DataW.weights, Tryz.underlying25]; exact List.mem_cons_self)
    rw [hb, hds] at this
    have hr : reachBytes ≤ 140737488355328 := by decide
    omega
end Go.Proofs.YtondgencdcimjaaGreat
