/-
  gnomonmem.HandInts: a copy with marked room behind its end; SameInts, KeptInts.
-/
import Derived.Test.YtfhfdpapppgfpaaGreatDoorIaz
import Derived.Test.YtfhfdpapppgfpaaGreatDoorZg
namespace Go.Proofs.YtfhfdpapppgfpaaGreatDoor
open Go.RowKit
set_option linter.unusedVariables false
set_option maxRecDepth 100000
/-- A list with the marks behind it. -/
def roomI (l : List Int) (q j : Nat) : Int := if j < q then l.getD j 0 else -700 - ((j - q : Nat) : Int)
def fillI (r : Nat → Int) (K j : Nat) : Int := if j < K then r j else 0
theorem make_ints (N : Nat) (hb : 8 * N ≤ 281474976710656) (w : World) :
    (Instr.makeSlice 23 (.int .i64 (N : Int)) (.int .i64 (N : Int))).run Tryz.prog w = .ok (.slice (some ⟨w.heap.size, 0, none⟩) N N) (w.alloc (.cells (madeCells #[.int .i64 0] N) 3)) := by
  obtain ⟨i, hi, hzz⟩ := Option.map_eq_some_iff.1 info_int
  simp only [Prod.mk.injEq] at hzz
  obtain ⟨hz, hs, hb'⟩ := hzz
  have hB : (i.bytes : Int) * (N : Int) ≤ 281474976710656 := by rw [hb']; omega
  have hr := run_make (P := Tryz.prog) w 23 3 i _ Tryz.underlying23 hi hz .i64 .i64 N N (by omega) (Int.le_refl _) hB (by omega)
  simp only [Int.toNat_natCast, hs, Nat.mul_one] at hr
  exact hr
theorem made_ints (N : Nat) (w : World) (T : TypeId) : ∀ j, j < N → (w.alloc (.cells (madeCells #[.int .i64 0] N) T)).cell? ⟨w.heap.size, j, none⟩ = some (.int .i64 0) := fun j hj => by
  rw [World.cell?_alloc_at _ _ _ _ rfl]
  simp [madeCells, hj, Nat.mod_one]
theorem fillI_set {w : World} {g N K : Nat} {r : Nat → Int} (hK : K < N) (h : ∀ j, j < N → w.cell? ⟨g, j, none⟩ = some (.int .i64 (fillI r K j))) : ∀ j, j < N → (w.setCell ⟨g, K, none⟩ (.int .i64 (r K))).cell? ⟨g, j, none⟩ = some (.int .i64 (fillI r (K + 1) j)) := fun j hj => by
  by_cases e : j = K
  · subst e
    rw [World.cell?_setCell_same _ _ _ (h _ hj)]
    unfold fillI
    rw [if_pos (by omega)]
  · rw [World.cell?_setCell_other _ _ _ _ (by intro e; injection e; omega), h j hj]
    unfold fillI
    by_cases l : j < K
    · rw [if_pos l, if_pos (by omega)]
    · rw [if_neg l, if_neg (by omega)]
set_option maxHeartbeats 4000000 in
theorem hand_ints (q cap : Nat) (ad : Option Addr) (l : List Int) (w : World) (hl : l.length = q) (hv : IntsAt w (.slice ad q cap) l) (hq : q * 8 ≤ 140737488355328) :
    Calls Tryz.prog 6 #[.slice ad q cap] w fun e w' => e = .returned (.slice (some ⟨w.heap.size, 0, none⟩) q (q + 9)) ∧ Hid (∀ j, j < q + 9 → w'.cell? ⟨w.heap.size, j, none⟩ = some (.int .i64 (roomI l q j))) ∧ w.heap.size < w'.heap.size ∧ Below w.heap.size w w' := by
  have hmk := make_ints (q + 9) (by omega)
  have HC : Hid (∀ wr, Below w.heap.size w wr → ∀ k, k < q → ∃ cb off, ad = some ⟨cb, off, none⟩ ∧ wr.cell? ⟨cb, off + k, none⟩ = some (.int .i64 (l.getD k 0))) := fun wr hb k hk => (hv.past hb).at hl k hk
  have E1 : Hid (∀ k, k < q → roomI l q k = l.getD k 0) := fun k hk => by unfold roomI; rw [if_pos hk]
  have E2 : Hid (∀ k, q ≤ k → roomI l q k = -700 - ((k - q : Nat) : Int)) := fun k hk => by unfold roomI; rw [if_neg (by omega)]
  have F0 : Hid (∀ j, j < q + 9 → (w.alloc (.cells (madeCells #[.int .i64 0] (q + 9)) 3)).cell? ⟨w.heap.size, j, none⟩ = some (.int .i64 (fillI (roomI l q) 0 j))) := fun j hj => by rw [made_ints (q + 9) w _ j hj]; unfold fillI; rw [if_neg (by omega)]
  clear hv hl
  have e0 : IntKind.i64.wrap ((q : Int) + 9) = ((q + 9 : Nat) : Int) := by rw [IntKind.wrap_i64]; omega
  generalize hN : q + 9 = N at *
  have HN := hideD hN
  clear hN
  have m1 : (q : Int) ≤ 9223372036854775807 := by omega
  generalize hr : roomI l q = r at *
  clear hr
  go_enter Tryz.func6, Tryz.ntmps6
  go_wp2_with fail
  have Z0 : Hid (∀ j, (w.alloc (.cells (madeCells #[.int .i64 0] N) 3)).frozen? ⟨w.heap.size, j, none⟩ = false) := fun j => by simp [go_sem]
  have B0 := hideD (below_one w (.cells (madeCells #[.int .i64 0] N) 3))
  have S0 : Hid (w.heap.size < (w.alloc (.cells (madeCells #[.int .i64 0] N) 3)).heap.size) := by show _ < _; simp
  generalize w.alloc (.cells (madeCells #[.int .i64 0] N) 3) = W at *
  clear hmk
  go_loopw [4] (fun s wr => ∃ (K : Nat), K ≤ q ∧ s = .int .i64 K ∧ Hid (∀ j, j < N → wr.cell? ⟨w.heap.size, j, none⟩ = some (.int .i64 (fillI r K j))) ∧ Hid (∀ j, wr.frozen? ⟨w.heap.size, j, none⟩ = false) ∧ Hid (w.heap.size < wr.heap.size) ∧ Hid (Below w.heap.size w wr)) (fun s _ => q - (intOf s).toNat)
  case atStart => exact ⟨0, by omega, rfl, F0, Z0, S0, B0⟩
  case round =>
    obtain ⟨K, hK, rfl, F, Z, Sz, B⟩ := hrel
    clear F0 Z0 B0 S0
    by_cases ck : K < q
    · obtain ⟨b, off, rfl, c1⟩ := HC.out wr B.out K ck
      have kN : K < N := by have := HN.out; omega
      have FN := hideD (fillI_set kN F.out)
      rw [E1.out K ck] at FN
      have z0 := Z.out K
      have y0 := F.out K kN
      generalize l.getD K 0 = x at *
      have ZN : Hid (∀ j, (wr.setCell ⟨w.heap.size, K, none⟩ (.int .i64 x)).frozen? ⟨w.heap.size, j, none⟩ = false) := fun j => by rw [World.frozen?_setCell]; exact Z.out j
      have BN := hideD (B.out.setCell (p := ⟨w.heap.size, K, none⟩) (Nat.le_refl _) (.int .i64 x))
      have SN : Hid (w.heap.size < (wr.setCell ⟨w.heap.size, K, none⟩ (.int .i64 x)).heap.size) := by show _ < _; rw [World.size_setCell]; exact Sz.out
      have k0 : (0 : Int) ≤ (K : Int) := by omega
      have k1 : (K : Int) < (q : Int) := by omega
      have k2 : (K : Int) < (N : Int) := by omega
      clear F Z Sz B
      go_wp2_with fail
      go_roundw
      case rel => exact ⟨K + 1, by omega, by go_num, FN, ZN, SN, BN⟩
      case measure => simp [intOf]; omega
    · have e : K = q := by omega
      subst e
      have k1 : decide ((K : Int) < (K : Int)) = false := by simp
      go_wp2_with fail
      go_loopw [5] (fun s wr => ∃ (J : Nat), K ≤ J ∧ J ≤ N ∧ s = .int .i64 J ∧ Hid (∀ j, j < N → wr.cell? ⟨w.heap.size, j, none⟩ = some (.int .i64 (fillI r J j))) ∧ Hid (∀ j, wr.frozen? ⟨w.heap.size, j, none⟩ = false) ∧ Hid (w.heap.size < wr.heap.size) ∧ Hid (Below w.heap.size w wr)) (fun s _ => N - (intOf s).toNat)
      case atStart => exact ⟨K, by omega, by have := HN.out; omega, rfl, F, Z, Sz, B⟩
      case round =>
        obtain ⟨J, hJ, hJN, rfl, F', Z', S', B'⟩ := hrel
        clear F Z Sz B
        by_cases cj : J < N
        · have FN := hideD (fillI_set cj F'.out)
          rw [E2.out J hJ] at FN
          have z0 := Z'.out J
          have y0 := F'.out J cj
          have e1 : IntKind.i64.wrap (-700 - (J : Int)) = -700 - (J : Int) := by rw [IntKind.wrap_i64]; have := HN.out; omega
          have e2 : IntKind.i64.wrap (-700 - (J : Int) + (K : Int)) = -700 - ((J - K : Nat) : Int) := by rw [IntKind.wrap_i64]; have := HN.out; omega
          have e3 : IntKind.i64.wrap (-700 - ((J - K : Nat) : Int)) = -700 - ((J - K : Nat) : Int) := by rw [IntKind.wrap_i64]; have := HN.out; omega
          generalize -700 - ((J - K : Nat) : Int) = x at *
          have ZN : Hid (∀ j, (wr.setCell ⟨w.heap.size, J, none⟩ (.int .i64 x)).frozen? ⟨w.heap.size, j, none⟩ = false) := fun j => by rw [World.frozen?_setCell]; exact Z'.out j
          have BN := hideD (B'.out.setCell (p := ⟨w.heap.size, J, none⟩) (Nat.le_refl _) (.int .i64 x))
          have SN : Hid (w.heap.size < (wr.setCell ⟨w.heap.size, J, none⟩ (.int .i64 x)).heap.size) := by show _ < _; rw [World.size_setCell]; exact S'.out
          have k0 : (0 : Int) ≤ (J : Int) := by omega
          have k2 : (J : Int) < (N : Int) := by omega
          have k5 : (J : Int) ≤ 9000000000000000000 := by have := HN.out; omega
          clear F' Z' S' B'
          go_wp2_with fail
          go_roundw
          case rel => exact ⟨J + 1, by omega, by omega, by go_num, FN, ZN, SN, BN⟩
          case measure => simp [intOf]; omega
        · have e : J = N := by omega
          subst e
          have FIN : Hid (∀ j, j < J → wr.cell? ⟨w.heap.size, j, none⟩ = some (.int .i64 (r j))) := fun j hj => by
            rw [F'.out j hj]; unfold fillI; rw [if_pos hj]
          have KN : Hid (K + 9 = J) := HN.out
          have k3 : (K : Int) ≤ (J : Int) := by have := HN.out; omega
          go_wp2_with fail
          go_ret
          exact ⟨rfl, FIN, S'.out, B'.out⟩
set_option maxHeartbeats 4000000 in
theorem same_ints (q cap cap' : Nat) (ad ad' : Option Addr) (l : List Int) (w : World) (hl : l.length = q) (hv : IntsAt w (.slice ad q cap) l) (hv' : IntsAt w (.slice ad' q cap') l) (hq : q ≤ 9223372036854775807) :
    Calls Tryz.prog 50 #[.slice ad q cap, .slice ad' q cap'] w fun e w' => e = .returned (.bool true) ∧ Below w.heap.size w w' := by
  have HC : Hid (∀ wr, Below w.heap.size w wr → ∀ k, k < q → ∃ cb off, ad = some ⟨cb, off, none⟩ ∧ wr.cell? ⟨cb, off + k, none⟩ = some (.int .i64 (l.getD k 0))) := fun wr hb k hk => (hv.past hb).at hl k hk
  have HC' : Hid (∀ wr, Below w.heap.size w wr → ∀ k, k < q → ∃ cb off, ad' = some ⟨cb, off, none⟩ ∧ wr.cell? ⟨cb, off + k, none⟩ = some (.int .i64 (l.getD k 0))) := fun wr hb k hk => (hv'.past hb).at hl k hk
  clear hv hv' hl
  have m0 : ((q : Int) == (q : Int)) = true := by simp
  have B0 := hideD (Below.refl w.heap.size w)
  go_enter Tryz.func50, Tryz.ntmps50
  go_wp2_with fail
  go_loopw [5] (fun s wr => ∃ (J : Nat), J ≤ q ∧ s = .int .i64 J ∧ Hid (Below w.heap.size w wr)) (fun s _ => q - (intOf s).toNat)
  case atStart => exact ⟨0, by omega, rfl, B0⟩
  case round =>
    obtain ⟨J, hJ, rfl, B⟩ := hrel
    clear B0
    by_cases cj : J < q
    · obtain ⟨b, off, rfl, c1⟩ := HC.out wr B.out J cj
      obtain ⟨b', off', rfl, g1⟩ := HC'.out wr B.out J cj
      have k0 : (0 : Int) ≤ (J : Int) := by omega
      have k1 : (J : Int) < (q : Int) := by omega
      generalize l.getD J 0 = u at *
      go_wp2_with fail
      go_quiet (fail)
      go_wp2_with fail
      go_roundw
      case rel => exact ⟨J + 1, by omega, by go_num, hideD (by first | exact B.out | exact Below.drew B.out | exact below_drewN B.out _)⟩
      case measure => simp [intOf]; omega
    · have e : J = q := by omega
      subst e
      have k1 : decide ((J : Int) < (J : Int)) = false := by simp
      go_wp2_with fail
      go_ret
      exact ⟨rfl, B.out⟩
theorem room_ints {w : World} {g q cap : Nat} {l : List Int} (hl : l.length = q) (h : ∀ j, j < q + 9 → w.cell? ⟨g, j, none⟩ = some (.int .i64 (roomI l q j))) : IntsAt w (.slice (some ⟨g, 0, none⟩) q cap) l :=
  .inr ⟨g, 0, cap, by rw [hl], fun j hj => by rw [Nat.zero_add, h j (by omega)]; unfold roomI; rw [if_pos (by omega)]⟩
set_option maxHeartbeats 4000000 in
theorem kept_ints (g q cap : Nat) (ad : Option Addr) (l : List Int) (w : World) (hl : l.length = q) (h : ∀ j, j < q + 9 → w.cell? ⟨g, j, none⟩ = some (.int .i64 (roomI l q j))) (hv : IntsAt w (.slice ad q cap) l) (hq : q * 8 ≤ 140737488355328) :
    Calls Tryz.prog 18 #[.slice (some ⟨g, 0, none⟩) q (q + 9), .slice ad q cap] w fun e w' => e = .returned (.bool true) ∧ Below w.heap.size w w' := by
  have HS := hideD (same_ints q (q + 9) cap (some ⟨g, 0, none⟩) ad l w hl (room_ints hl h) hv (by omega))
  have HV : Hid (∀ k, q ≤ k → k < q + 9 → w.cell? ⟨g, k, none⟩ = some (.int .i64 (-700 - ((k - q : Nat) : Int)))) := fun k h1 h2 => by
    rw [h k h2]; unfold roomI; rw [if_neg (by omega)]
  clear h hv hl
  have e0 : IntKind.i64.wrap ((q : Int) + 9) = ((q + 9 : Nat) : Int) := by rw [IntKind.wrap_i64]; omega
  generalize hN : q + 9 = N at *
  have HN := hideD hN
  have m1 : (0 : Int) ≤ (N : Int) := by omega
  clear hN
  go_enter Tryz.func18, Tryz.ntmps18
  go_wp2_with fail
  refine HS.out.mono ?_
  rintro e w1 ⟨rfl, hb⟩
  have HB := hideD hb
  clear hb HS
  go_wp2_with fail
  go_loopw [6] (fun s wr => ∃ (J : Nat), q ≤ J ∧ J ≤ N ∧ s = .int .i64 J ∧ Hid (Below w.heap.size w wr)) (fun s _ => N - (intOf s).toNat)
  case atStart => exact ⟨q, by omega, by have := HN.out; omega, rfl, HB⟩
  case round =>
    obtain ⟨J, hJ, hJN, rfl, B⟩ := hrel
    clear HB
    by_cases cj : J < N
    · have c1 := kc _ _ B.out (HV.out J hJ cj)
      have k0 : (0 : Int) ≤ (J : Int) := by omega
      have k1 : (J : Int) < (N : Int) := by omega
      have k5 : (J : Int) ≤ 9000000000000000000 := by have := HN.out; omega
      have e1 : IntKind.i64.wrap (-700 - (J : Int)) = -700 - (J : Int) := by rw [IntKind.wrap_i64]; have := HN.out; omega
      have e2 : IntKind.i64.wrap (-700 - (J : Int) + (q : Int)) = -700 - ((J - q : Nat) : Int) := by rw [IntKind.wrap_i64]; have := HN.out; omega
      have e3 : IntKind.i64.wrap (-700 - ((J - q : Nat) : Int)) = -700 - ((J - q : Nat) : Int) := by rw [IntKind.wrap_i64]; have := HN.out; omega
      generalize -700 - ((J - q : Nat) : Int) = x at *
      go_wp2_with fail
      go_roundw
      case rel => exact ⟨J + 1, by omega, by omega, by go_num, B⟩
      case measure => simp [intOf]; omega
    · have e : J = N := by omega
      subst e
      have k1 : decide ((J : Int) < (J : Int)) = false := by simp
      go_wp2_with fail
      go_ret
      exact ⟨rfl, B.out⟩
end Go.Proofs.YtfhfdpapppgfpaaGreatDoor
