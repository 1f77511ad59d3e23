/-
  gnomonmem.HandInts: a copy with marked room behind its end; gnomonmem.KeptInts.
-/
import Derived.Test.YtmnhbokiibaopaaDoorQq
namespace Go.Proofs.YtmnhbokiibaopaaDoor
open Go.RowKit Go.Shelf
set_option linter.unusedVariables false
/-- A list of whole numbers. -/
structure IntsL where
  q : Nat
  n : Nat → Int
/-- They lie in memory behind a slice's address. -/
def IntsV (w : World) (ad : Option Addr) (L : IntsL) : Prop := ∀ k, k < L.q → ∃ b off, ad = some ⟨b, off, none⟩ ∧ w.cell? ⟨b, off + k, none⟩ = some (.int .i64 (L.n k))
theorem IntsV.later {w w' : World} {ad : Option Addr} {L : IntsL} (h : IntsV w ad L) (hb : Below w.heap.size w w') : IntsV w' ad L := fun k hk => by
  obtain ⟨b, off, e, c1⟩ := h k hk
  exact ⟨b, off, e, kc _ _ hb c1⟩
/-- With the marked room behind its end. -/
def roomyI (L : IntsL) : IntsL := ⟨L.q + 9, fun k => if k < L.q then L.n k else -700 - ((k - L.q : Nat) : Int)⟩
def fillI (L : IntsL) (K j : Nat) : Value := if j < K then .int .i64 (L.n j) else .int .i64 0
theorem fillI_next (L : IntsL) (K j : Nat) : fillI L (K + 1) j = if j = K then .int .i64 (L.n K) else fillI L K j := by
  unfold fillI
  by_cases e : j = K
  · subst e
    rw [if_pos rfl, if_pos (by omega)]
  · rw [if_neg e]
    by_cases l : j < K
    · rw [if_pos l, if_pos (by omega)]
    · rw [if_neg l, if_neg (by omega)]
theorem fillI_row {L : IntsL} {w : World} {g : Nat} (h : ∀ j, j < L.q → w.cell? ⟨g, j, none⟩ = some (fillI L L.q j)) : IntsV w (some ⟨g, 0, none⟩) L := fun k hk => by
  have h0 := h k hk
  unfold fillI at h0
  rw [if_pos hk] at h0
  exact ⟨g, 0, rfl, by rw [Nat.zero_add]; exact h0⟩
theorem info_int : (Tryd.prog.info? 3).map (fun i => (i.zero, i.size, i.bytes)) = some (some (.int .i64 0), 1, 8) := by kernel_rfl
theorem make_ints (N : Nat) (hb : 8 * N ≤ 281474976710656) (w : World) :
    (Instr.makeSlice 31 (.int .i64 (N : Int)) (.int .i64 (N : Int))).run Tryd.prog w = .ok (.slice (some ⟨w.heap.size, 0, none⟩) N N) (w.alloc (.cells (madeCells #[.int .i64 0] N) 3)) := by
  obtain ⟨i, hi, hzz⟩ := Option.map_eq_some_iff.1 info_int
  simp only [Prod.mk.injEq] at hzz
  obtain ⟨hz, hs, hb'⟩ := hzz
  have hB : (i.bytes : Int) * (N : Int) ≤ 281474976710656 := by rw [hb']; omega
  have hr := run_make (P := Tryd.prog) w 31 3 i _ Tryd.underlying31 hi hz .i64 .i64 N N (by omega) (Int.le_refl _) hB (by omega)
  simp only [Int.toNat_natCast, hs, Nat.mul_one] at hr
  exact hr
theorem madeI_fill (L : IntsL) (N : Nat) (w : World) (T : TypeId) : ∀ j, j < N → (w.alloc (.cells (madeCells #[.int .i64 0] N) T)).cell? ⟨w.heap.size, j, none⟩ = some (fillI L 0 j) := fun j hj => by
  rw [World.cell?_alloc_at _ _ _ _ rfl]
  simp [madeCells, hj, fillI, Nat.mod_one]
theorem fillI_set {w : World} {g N K : Nat} {L : IntsL} (hK : K < N) (h : ∀ j, j < N → w.cell? ⟨g, j, none⟩ = some (fillI L K j)) :
    ∀ j, j < N → (w.setCell ⟨g, K, none⟩ (.int .i64 (L.n K))).cell? ⟨g, j, none⟩ = some (fillI L (K + 1) j) := fun j hj => by
  rw [fillI_next]
  by_cases e : j = K
  · subst e
    rw [World.cell?_setCell_same _ _ _ (h _ hj), if_pos rfl]
  · rw [World.cell?_setCell_other _ _ _ _ (by intro q; injection q; omega), if_neg e]
    exact h j hj
set_option maxRecDepth 100000 in
set_option maxHeartbeats 4000000 in
theorem hand_ints (ad : Option Addr) (cap : Nat) (L : IntsL) (w : World) (hR : IntsV w ad L) (hq : L.q * 8 ≤ 140737488355328) :
    Calls Tryd.prog 18 #[.slice ad L.q cap] w fun e w' => e = .returned (.slice (some ⟨w.heap.size, 0, none⟩) L.q (L.q + 9)) ∧ IntsV w' (some ⟨w.heap.size, 0, none⟩) (roomyI L) ∧ w.heap.size < w'.heap.size ∧ Below w.heap.size w w' := by
  have hmk := make_ints (L.q + 9) (by omega)
  have HR := hideR hR
  have E1 : Hid (∀ k, k < L.q → (roomyI L).n k = L.n k) := fun k hk => by simp [roomyI, hk]
  have E2 : Hid (∀ k, L.q ≤ k → (roomyI L).n k = -700 - ((k - L.q : Nat) : Int)) := fun k hk => by simp [roomyI, Nat.not_lt.2 hk]
  have E3 : Hid ((roomyI L).q = L.q + 9) := rfl
  have F0 := hideR (madeI_fill (roomyI L) (L.q + 9) w 3)
  clear hR
  generalize hm : L.q = m at *
  have HM := hideR hm
  clear hm
  have e0 : IntKind.i64.wrap ((m : Int) + 9) = ((m + 9 : Nat) : Int) := by rw [IntKind.wrap_i64]; omega
  generalize hN : m + 9 = N at *
  have HN := hideR hN
  clear hN
  have m1 : (m : Int) ≤ 9223372036854775807 := by omega
  go_enter Tryd.func18, Tryd.ntmps18
  go_wp2_with fail
  have Z0 : Hid (∀ j, (w.alloc (.cells (madeCells #[.int .i64 0] N) 3)).frozen? ⟨w.heap.size, j, none⟩ = false) := fun j => by simp [go_sem]
  have B0 := hideR (single w (.cells (madeCells #[.int .i64 0] N) 3))
  have S0 : Hid (w.heap.size < (w.alloc (.cells (madeCells #[.int .i64 0] N) 3)).heap.size) := by show _ < _; simp
  generalize w.alloc (.cells (madeCells #[.int .i64 0] N) 3) = W at *
  clear hmk
  go_loopw [4] (fun s wr => ∃ (K : Nat), K ≤ m ∧ s = .int .i64 K ∧ Hid (∀ j, j < N → wr.cell? ⟨w.heap.size, j, none⟩ = some (fillI (roomyI L) K j)) ∧ Hid (∀ j, wr.frozen? ⟨w.heap.size, j, none⟩ = false) ∧ Hid (w.heap.size < wr.heap.size) ∧ Hid (Below w.heap.size w wr)) (fun s _ => m - (intOf s).toNat)
  case atStart => exact ⟨0, by omega, rfl, F0, Z0, S0, B0⟩
  case round =>
    obtain ⟨K, hK, rfl, F, Z, Sz, B⟩ := hrel
    clear F0 Z0 B0 S0
    by_cases ck : K < m
    · obtain ⟨b, off, rfl, c1'⟩ := HR.out K (by rw [HM.out]; exact ck)
      have c1 := kc _ _ B.out c1'
      clear c1'
      have kN : K < N := by have := HN.out; omega
      have FN := hideR (fillI_set kN F.out)
      have x0 := E1.out K ck
      rw [x0] at FN
      have z0 := Z.out K
      have y0 := F.out K (by omega)
      generalize L.n K = x at *
      have ZN : Hid (∀ j, (wr.setCell ⟨w.heap.size, K, none⟩ (.int .i64 x)).frozen? ⟨w.heap.size, j, none⟩ = false) := fun j => by
        rw [World.frozen?_setCell]
        exact Z.out j
      have BN : Hid (Below w.heap.size w (wr.setCell ⟨w.heap.size, K, none⟩ (.int .i64 x))) := Below.setCell (p := ⟨w.heap.size, K, none⟩) B.out (Nat.le_refl _) _
      have SN : Hid (w.heap.size < (wr.setCell ⟨w.heap.size, K, none⟩ (.int .i64 x)).heap.size) := by
        show _ < _
        have := Sz.out
        simpa [World.setCell] using this
      have k0 : (0 : Int) ≤ (K : Int) := by omega
      have k1 : (K : Int) < (m : Int) := by omega
      have k2 : (K : Int) < (N : Int) := by omega
      clear F Z Sz B
      go_wp2_with fail
      go_roundw
      case rel => exact ⟨K + 1, by omega, by go_num, FN, ZN, SN, BN⟩
      case measure => simp [intOf]; omega
    · have e : K = m := by omega
      subst e
      have k1 : decide ((K : Int) < (K : Int)) = false := by simp
      go_wp2_with fail
      go_loopw [5] (fun s wr => ∃ (J : Nat), K ≤ J ∧ J ≤ N ∧ s = .int .i64 J ∧ Hid (∀ j, j < N → wr.cell? ⟨w.heap.size, j, none⟩ = some (fillI (roomyI L) J j)) ∧ Hid (∀ j, wr.frozen? ⟨w.heap.size, j, none⟩ = false) ∧ Hid (w.heap.size < wr.heap.size) ∧ Hid (Below w.heap.size w wr)) (fun s _ => N - (intOf s).toNat)
      case atStart => exact ⟨K, by omega, by have := HN.out; omega, rfl, F, Z, Sz, B⟩
      case round =>
        obtain ⟨J, hJ, hJN, rfl, F', Z', S', B'⟩ := hrel
        clear F Z Sz B
        by_cases cj : J < N
        · have FN := hideR (fillI_set cj F'.out)
          have x0 := E2.out J hJ
          rw [x0] at FN
          have z0 := Z'.out J
          have y0 := F'.out J (by omega)
          have e1 : IntKind.i64.wrap (-700 - (J : Int)) = -700 - (J : Int) := by rw [IntKind.wrap_i64]; have := HN.out; omega
          have e2 : IntKind.i64.wrap (-700 - (J : Int) + (K : Int)) = -700 - ((J - K : Nat) : Int) := by rw [IntKind.wrap_i64]; have := HN.out; omega
          have e3 : IntKind.i64.wrap (-700 - ((J - K : Nat) : Int)) = -700 - ((J - K : Nat) : Int) := by rw [IntKind.wrap_i64]; have := HN.out; omega
          generalize -700 - ((J - K : Nat) : Int) = x at *
          have ZN : Hid (∀ j, (wr.setCell ⟨w.heap.size, J, none⟩ (.int .i64 x)).frozen? ⟨w.heap.size, j, none⟩ = false) := fun j => by
            rw [World.frozen?_setCell]
            exact Z'.out j
          have BN : Hid (Below w.heap.size w (wr.setCell ⟨w.heap.size, J, none⟩ (.int .i64 x))) := Below.setCell (p := ⟨w.heap.size, J, none⟩) B'.out (Nat.le_refl _) _
          have SN : Hid (w.heap.size < (wr.setCell ⟨w.heap.size, J, none⟩ (.int .i64 x)).heap.size) := by
            show _ < _
            have := S'.out
            simpa [World.setCell] using this
          have k0 : (0 : Int) ≤ (J : Int) := by omega
          have k2 : (J : Int) < (N : Int) := by omega
          have k5 : (J : Int) ≤ 9000000000000000000 := by have := HN.out; omega
          clear F' Z' S' B'
          go_wp2_with fail
          go_roundw
          case rel => exact ⟨J + 1, by omega, by omega, by go_num, FN, ZN, SN, BN⟩
          case measure => simp [intOf]; omega
        · have e : J = N := by omega
          subst e
          have k2 : decide ((J : Int) < (J : Int)) = false := by simp
          have k3 : (0 : Int) ≤ (K : Int) := by omega
          have k4 : (K : Int) ≤ (J : Int) := by omega
          have RR : IntsV wr (some ⟨w.heap.size, 0, none⟩) (roomyI L) := fillI_row (by rw [E3.out]; exact F'.out)
          go_wp2_with fail
          go_ret
          exact ⟨rfl, RR, S'.out, B'.out⟩
theorem roomyI_of {w : World} {ad : Option Addr} {L : IntsL} (h : IntsV w ad (roomyI L)) : IntsV w ad L := fun k hk => by
  obtain ⟨b, off, e, c1⟩ := h k (by show k < L.q + 9; omega)
  simp only [roomyI, hk, if_true] at c1
  exact ⟨b, off, e, c1⟩
set_option maxRecDepth 100000 in
set_option maxHeartbeats 4000000 in
theorem same_ints (ad ad' : Option Addr) (cap cap' : Nat) (L : IntsL) (w : World) (hV : IntsV w ad L) (hV' : IntsV w ad' L) (hq : L.q ≤ 9223372036854775807) :
    Calls Tryd.prog 28 #[.slice ad L.q cap, .slice ad' L.q cap'] w fun e w' => e = .returned (.bool true) ∧ Below w.heap.size w w' := by
  have HV := hideR hV
  have HV' := hideR hV'
  clear hV hV'
  generalize hm : L.q = m at *
  have HM := hideR hm
  clear hm
  have m0 : ((m : Int) == (m : Int)) = true := by simp
  have B0 := hideR (Below.refl w.heap.size w)
  go_enter Tryd.func28, Tryd.ntmps28
  go_wp2_with fail
  go_loopw [5] (fun s wr => ∃ (J : Nat), J ≤ m ∧ s = .int .i64 J ∧ Hid (Below w.heap.size w wr)) (fun s _ => m - (intOf s).toNat)
  case atStart => exact ⟨0, by omega, rfl, B0⟩
  case round =>
    obtain ⟨J, hJ, rfl, B⟩ := hrel
    clear B0
    by_cases cj : J < m
    · obtain ⟨b, off, rfl, d1⟩ := HV.out J (by rw [HM.out]; exact cj)
      obtain ⟨b', off', rfl, f1⟩ := HV'.out J (by rw [HM.out]; exact cj)
      have c1 := kc _ _ B.out d1
      have g1 := kc _ _ B.out f1
      have k0 : (0 : Int) ≤ (J : Int) := by omega
      have k1 : (J : Int) < (m : Int) := by omega
      clear d1 f1
      generalize L.n J = u at *
      go_wp2_with fail
      go_quiet (fail)
      go_wp2_with fail
      go_roundw
      case rel => exact ⟨J + 1, by omega, by go_num, hideR (by first | exact B.out | exact Below.drew B.out | exact below_drewN B.out _)⟩
      case measure => simp [intOf]; omega
    · have e : J = m := by omega
      subst e
      have k1 : decide ((J : Int) < (J : Int)) = false := by simp
      go_wp2_with fail
      go_ret
      exact ⟨rfl, B.out⟩
set_option maxRecDepth 100000 in
set_option maxHeartbeats 4000000 in
theorem kept_ints (g : Nat) (ad : Option Addr) (cap : Nat) (L : IntsL) (w : World) (hV : IntsV w (some ⟨g, 0, none⟩) (roomyI L)) (hV' : IntsV w ad L) (hq : L.q * 8 ≤ 140737488355328) :
    Calls Tryd.prog 23 #[.slice (some ⟨g, 0, none⟩) L.q (L.q + 9), .slice ad L.q cap] w fun e w' => e = .returned (.bool true) ∧ Below w.heap.size w w' := by
  have HS : Hid (∀ w', Below w.heap.size w w' → Calls Tryd.prog 28 #[.slice (some ⟨g, 0, none⟩) L.q (L.q + 9), .slice ad L.q cap] w' fun e w'' => e = .returned (.bool true) ∧ Below w'.heap.size w' w'') := hideR fun w' hb => same_ints _ _ _ _ L w' (roomyI_of (hV.later hb)) (hV'.later hb) (by omega)
  have HV : Hid (∀ k, L.q ≤ k → k < L.q + 9 → w.cell? ⟨g, k, none⟩ = some (.int .i64 (-700 - ((k - L.q : Nat) : Int)))) := fun k h1 h2 => by
    obtain ⟨b, off, e, c1⟩ := hV k h2
    injection e with e
    injection e with e1 e2
    subst e1
    subst e2
    simp only [roomyI, Nat.not_lt.2 h1, if_false, Nat.zero_add] at c1
    exact c1
  clear hV hV'
  generalize hm : L.q = m at *
  have e0 : IntKind.i64.wrap ((m : Int) + 9) = ((m + 9 : Nat) : Int) := by rw [IntKind.wrap_i64]; omega
  generalize hN : m + 9 = N at *
  have HN := hideR hN
  have m1 : (0 : Int) ≤ (N : Int) := by omega
  clear hN hm
  go_enter Tryd.func23, Tryd.ntmps23
  go_wp2_with fail
  refine (HS.out _ (Below.refl _ _)).mono ?_
  rintro e w1 ⟨rfl, hb⟩
  have HB := hideR hb
  clear hb HS
  go_wp2_with fail
  go_loopw [6] (fun s wr => ∃ (J : Nat), m ≤ J ∧ J ≤ N ∧ s = .int .i64 J ∧ Hid (Below w.heap.size w wr)) (fun s _ => N - (intOf s).toNat)
  case atStart => exact ⟨m, by omega, by have := HN.out; omega, rfl, HB⟩
  case round =>
    obtain ⟨J, hJ, hJN, rfl, B⟩ := hrel
    clear HB
    by_cases cj : J < N
    · have d1 := HV.out J hJ cj
      have c1 := kc _ _ B.out d1
      have k0 : (0 : Int) ≤ (J : Int) := by omega
      have k1 : (J : Int) < (N : Int) := by omega
      have k5 : (J : Int) ≤ 9000000000000000000 := by have := HN.out; omega
      have e1 : IntKind.i64.wrap (-700 - (J : Int)) = -700 - (J : Int) := by rw [IntKind.wrap_i64]; have := HN.out; omega
      have e2 : IntKind.i64.wrap (-700 - (J : Int) + (m : Int)) = -700 - ((J - m : Nat) : Int) := by rw [IntKind.wrap_i64]; have := HN.out; omega
      have e3 : IntKind.i64.wrap (-700 - ((J - m : Nat) : Int)) = -700 - ((J - m : Nat) : Int) := by rw [IntKind.wrap_i64]; have := HN.out; omega
      clear d1
      generalize -700 - ((J - m : Nat) : Int) = x at *
      go_wp2_with fail
      go_roundw
      case rel => exact ⟨J + 1, by omega, by omega, by go_num, B⟩
      case measure => simp [intOf]; omega
    · have e : J = N := by omega
      subst e
      have k1 : decide ((J : Int) < (J : Int)) = false := by simp
      go_wp2_with fail
      go_ret
      exact ⟨rfl, B.out⟩
def intsOf (l : List Int) : IntsL := ⟨l.length, fun k => l.getD k 0⟩
theorem ints_row {w : World} {ad : Option Addr} {l : List Int} (h : RowV w ad (l.flatMap IntC)) : IntsV w ad (intsOf l) := fun k hk => by
  have hk' : k < l.length := hk
  obtain ⟨b, off, e, cc⟩ := rowV_at (s := 1) (fun _ => rfl) h (by decide) hk'
  have x0 := cc 0 (by decide)
  simp only [IntC, List.getElem?_cons_zero, Nat.mul_one, Nat.add_zero] at x0
  have g : l.getD k 0 = l[k]'hk' := by simp [List.getD_eq_getElem?_getD, hk']
  refine ⟨b, off, e, ?_⟩
  show _ = some (Value.int .i64 (l.getD k 0))
  rw [g]; exact x0
theorem row_ints {w : World} {ad : Option Addr} {l : List Int} (h : IntsV w ad (intsOf l)) : RowV w ad (l.flatMap IntC) := fun j u q => by
  have hj : j < l.length := by
    have := (List.getElem?_eq_some_iff.1 q).1
    rw [flat_len IntC 1 (fun _ => rfl)] at this
    omega
  obtain ⟨b, off, e, x0⟩ := h j hj
  have g : l.getD j 0 = l[j]'hj := by simp [List.getD_eq_getElem?_getD, hj]
  have at_ := flat_at IntC 1 (fun _ => rfl) l j hj 0 (by decide)
  rw [Nat.mul_one, Nat.add_zero, q] at at_
  refine ⟨b, off, e, ?_⟩
  have x0' : w.cell? ⟨b, off + j, none⟩ = some (.int .i64 (l.getD j 0)) := x0
  rw [g] at x0'
  rw [x0', at_]
  rfl
end Go.Proofs.YtmnhbokiibaopaaDoor
