/-
  gnomonmem.HandInts: a copy with marked room behind its end; gnomonmem.KeptInts.
-/
import Derived.Test.YtgidlgmnkjoofaaDoorQq
namespace Go.Proofs.YtgidlgmnkjoofaaDoor
open Go.RowKit Go.Shelf
set_option linter.unusedVariables false
/-- A list of whole numbers. -/
structure IntsL where
  q : Nat
  n : Nat → Int
/-- They lie in memory behind a slice's address. -/
def IntsV (w : World) (ad : Option Addr) (L : IntsL) : Prop := ∀ k, k < L.q → ∃ b off, ad = some ⟨b, off, none⟩ ∧ w.cell? ⟨b, off + k, none⟩ = some (.int .i64 (L.n k))
theorem IntsV.later {w w' : World} {ad : Option Addr} {L : IntsL} (h : IntsV w ad L) (hb : Below w.heap.size w w') : IntsV w' ad L := fun k hk => by
  obtain ⟨b, off, e, c1⟩ := h k hk
  exact ⟨b, off, e, kc _ _ hb c1⟩
/-- With the marked room behind its end. -/
def roomyI (L : IntsL) : IntsL := ⟨L.q + 9, fun k => if k < L.q then L.n k else -700 - ((k - L.q : Nat) : Int)⟩
def fillI (L : IntsL) (K j : Nat) : Value := if j < K then .int .i64 (L.n j) else .int .i64 0
theorem fillI_next (L : IntsL) (K j : Nat) : fillI L (K + 1) j = if j = K then .int .i64 (L.n K) else fillI L K j := by
  unfold fillI
  by_cases e : j = K
  · subst e
    rw [if_pos rfl, if_pos (by omega)]
  · rw [if_neg e]
    by_cases l : j < K
    · rw [if_pos l, if_pos (by omega)]
    · rw [if_neg l, if_neg (by omega)]
theorem fillI_row {L : IntsL} {w : World} {g : Nat} (h : ∀ j, j < L.q → w.cell? ⟨g, j, none⟩ = some (fillI L L.q j)) : IntsV w (some ⟨g, 0, none⟩) L := fun k hk => by
  have h0 := h k hk
  unfold fillI at h0
  rw [if_pos hk] at h0
  exact ⟨g, 0, rfl, by rw [Nat.zero_add]; exact h0⟩
theorem info_int : (Tryd.prog.info? 3).map (fun i => (i.zero, i.size, i.bytes)) = some (some (.int .i64 0), 1, 8) := by kernel_rfl
theorem make_ints (N : Nat) (hb : 8 * N ≤ 281474976710656) (w : World) :
    (Instr.makeSlice 26 (.int .i64 (N : Int)) (.int .i64 (N : Int))).run Tryd.prog w = .ok (.slice (some ⟨w.heap.size, 0, none⟩) N N) (w.alloc (.cells (madeCells #[.int .i64 0] N) 3)) := by
  obtain ⟨i, hi, hzz⟩ := Option.map_eq_some_iff.1 info_int
  simp only [Prod.mk.injEq] at hzz
  obtain ⟨hz, hs, hb'⟩ := hzz
  have hB : (i.bytes : Int) * (N : Int) ≤ 281474976710656 := by rw [hb']; omega
  have hr := run_make (P := Tryd.prog) w 26 3 i _ Tryd.underlying26 hi hz .i64 .i64 N N (by omega) (Int.le_refl _) hB (by omega)
  simp only [Int.toNat_natCast, hs, Nat.mul_one] at hr
  exact hr
theorem madeI_fill (L : IntsL) (N : Nat) (w : World) (T : TypeId) : ∀ j, j < N → (w.alloc (.cells (madeCells #[.int .i64 0] N) T)).cell? ⟨w.heap.size, j, none⟩ = some (fillI L 0 j) := fun j hj => by
  rw [World.cell?_alloc_at _ _ _ _ rfl]
  simp [madeCells, hj, fillI, Nat.mod_one]
theorem fillI_set {w : World} {g N K : Nat} {L : IntsL} (hK : K < N) (h : ∀ j, j < N → w.cell? ⟨g, j, none⟩ = some (fillI L K j)) :
    ∀ j, j < N → (w.setCell ⟨g, K, none⟩ (.int .i64 (L.n K))).cell? ⟨g, j, none⟩ = some (fillI L (K + 1) j) := fun j hj => by
  rw [fillI_next]
  by_cases e : j = K
  · subst e
    rw [World.cell?_setCell_same _ _ _ (h _ hj), if_pos rfl]
  · rw [World.cell?_setCell_other _ _ _ _ (by intro q; injection q; omega), if_neg e]
    exact h j hj
theorem roomyI_of {w : World} {ad : Option Addr} {L : IntsL} (h : IntsV w ad (roomyI L)) : IntsV w ad L := fun k hk => by
  obtain ⟨b, off, e, c1⟩ := h k (by show k < L.q + 9; omega)
  simp only [roomyI, hk, if_true] at c1
  exact ⟨b, off, e, c1⟩
set_option maxRecDepth 100000 in
set_option maxHeartbeats 4000000 in
theorem same_ints (ad ad' : Option Addr) (cap cap' : Nat) (L : IntsL) (w : World) (hV : IntsV w ad L) (hV' : IntsV w ad' L) (hq : L.q ≤ 9223372036854775807) :
    Calls Tryd.prog 10 #[.slice ad L.q cap, .slice ad' L.q cap'] w fun e w' => e = .returned (.bool true) ∧ Below w.heap.size w w' := by
  have HV := hideR hV
  have HV' := hideR hV'
  clear hV hV'
  generalize hm : L.q = m at *
  have HM := hideR hm
  clear hm
  have m0 : ((m : Int) == (m : Int)) = true := by simp
  have B0 := hideR (Below.refl w.heap.size w)
  go_enter Tryd.func10, Tryd.ntmps10
  go_wp2_with fail
  go_loopw [5] (fun s wr => ∃ (J : Nat), J ≤ m ∧ s = .int .i64 J ∧ Hid (Below w.heap.size w wr)) (fun s _ => m - (intOf s).toNat)
  case atStart => exact ⟨0, by omega, rfl, B0⟩
  case round =>
    obtain ⟨J, hJ, rfl, B⟩ := hrel
    clear B0
    by_cases cj : J < m
    · obtain ⟨b, off, rfl, d1⟩ := HV.out J (by rw [HM.out]; exact cj)
      obtain ⟨b', off', rfl, f1⟩ := HV'.out J (by rw [HM.out]; exact cj)
      have c1 := kc _ _ B.out d1
      have g1 := kc _ _ B.out f1
      have k0 : (0 : Int) ≤ (J : Int) := by omega
      have k1 : (J : Int) < (m : Int) := by omega
      clear d1 f1
      generalize L.n J = u at *
      go_wp2_with fail
      go_quiet (fail)
      go_wp2_with fail
      go_roundw
      case rel => exact ⟨J + 1, by omega, by go_num, hideR (by first | exact B.out | exact Below.drew B.out | exact below_drewN B.out _)⟩
      case measure => simp [intOf]; omega
    · have e : J = m := by omega
      subst e
      have k1 : decide ((J : Int) < (J : Int)) = false := by simp
      go_wp2_with fail
      go_ret
      exact ⟨rfl, B.out⟩
def intsOf (l : List Int) : IntsL := ⟨l.length, fun k => l.getD k 0⟩
theorem ints_row {w : World} {ad : Option Addr} {l : List Int} (h : RowV w ad (l.flatMap IntC)) : IntsV w ad (intsOf l) := fun k hk => by
  have hk' : k < l.length := hk
  obtain ⟨b, off, e, cc⟩ := rowV_at (s := 1) (fun _ => rfl) h (by decide) hk'
  have x0 := cc 0 (by decide)
  simp only [IntC, List.getElem?_cons_zero, Nat.mul_one, Nat.add_zero] at x0
  have g : l.getD k 0 = l[k]'hk' := by simp [List.getD_eq_getElem?_getD, hk']
  refine ⟨b, off, e, ?_⟩
  show _ = some (Value.int .i64 (l.getD k 0))
  rw [g]; exact x0
theorem row_ints {w : World} {ad : Option Addr} {l : List Int} (h : IntsV w ad (intsOf l)) : RowV w ad (l.flatMap IntC) := fun j u q => by
  have hj : j < l.length := by
    have := (List.getElem?_eq_some_iff.1 q).1
    rw [flat_len IntC 1 (fun _ => rfl)] at this
    omega
  obtain ⟨b, off, e, x0⟩ := h j hj
  have g : l.getD j 0 = l[j]'hj := by simp [List.getD_eq_getElem?_getD, hj]
  have at_ := flat_at IntC 1 (fun _ => rfl) l j hj 0 (by decide)
  rw [Nat.mul_one, Nat.add_zero, q] at at_
  refine ⟨b, off, e, ?_⟩
  have x0' : w.cell? ⟨b, off + j, none⟩ = some (.int .i64 (l.getD j 0)) := x0
  rw [g] at x0'
  rw [x0', at_]
  rfl
end Go.Proofs.YtgidlgmnkjoofaaDoor
