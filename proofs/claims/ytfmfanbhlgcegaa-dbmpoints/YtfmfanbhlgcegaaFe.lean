/-
  The contract of valuation of the statements of dbm.
-/
import Derived.Test.YtfmfanbhlgcegaaFd
namespace Go.Proofs.Ytfmfanbhlgcegaa
open Go.RowKit Go.Shelf
set_option linter.unusedVariables false
set_option maxRecDepth 100000
/-- A slice of numbers of 32 bits that was handed in. -/
def PointAt (w : World) (v : Value) (l : List Int) : Prop := (∃ ad c, v = .slice ad 0 c ∧ l = []) ∨ (∃ b off cap, v = .slice (some ⟨b, off, none⟩) l.length cap ∧ ∀ j, j < l.length → w.cell? ⟨b, off + j, none⟩ = some (.int .u32 (l.getD j 0)))
/-- The valuation: 0 first. -/
def valU (l : List Int) (i : Nat) : Int := if i = 0 then 0 else if i ≤ l.length then l.getD (i - 1) 0 else 0
def valI (l : List Int) (I i : Nat) : Int := if i < I then valU l i else 0
theorem valI_one (l : List Int) (i : Nat) : valI l 1 i = 0 := by
  unfold valI valU
  split
  · rw [if_pos (by omega)]
  · rfl
theorem valI_next (l : List Int) (I i : Nat) (h : 1 ≤ I) (hI : I ≤ l.length) : valI l (I + 1) i = if i = I then l.getD (I - 1) 0 else valI l I i := by
  unfold valI
  by_cases q : i = I
  · subst q
    rw [if_pos (by omega), if_pos rfl, valU, if_neg (by omega), if_pos hI]
  · rw [if_neg q]
    by_cases q2 : i < I
    · rw [if_pos (by omega), if_pos q2]
    · rw [if_neg (by omega), if_neg q2]
theorem valI_end (l : List Int) (I n i : Nat) (h : n < I ∨ l.length < I) (h1 : 1 ≤ I) (hi : i ≤ n) : valI l I i = valU l i := by
  unfold valI
  split
  · rfl
  · rename_i q
    unfold valU
    rw [if_neg (by omega), if_neg (by omega)]
set_option maxHeartbeats 2000000 in
theorem valuation_any (n : Nat) (vp : Value) (l : List Int) (w : World) (hn : n ≤ 8) (hP : PointAt w vp l) (hu : ∀ j, j < l.length → 0 ≤ l.getD j 0 ∧ l.getD j 0 ≤ 4294967295) (hby : l.length ≤ 9223372036854775807) :
    Calls Try.prog 8 #[.int .i64 n, vp] w fun e w' => (∃ g cap, e = .returned (.slice (some ⟨g, 0, none⟩) (n + 1 : Nat) cap) ∧ w.heap.size ≤ g ∧ ValAt w' g n (valU l)) ∧ Below w.heap.size w w' := by
  obtain ⟨ad, cap, rfl, HL⟩ : ∃ ad cap, vp = .slice ad l.length cap ∧ Hid (∀ j, j < l.length → ∃ b off, ad = some ⟨b, off, none⟩ ∧ w.cell? ⟨b, off + j, none⟩ = some (.int .u32 (l.getD j 0))) := by
    rcases hP with ⟨ad, c, rfl, rfl⟩ | ⟨b, off, cap, rfl, hc⟩
    · exact ⟨ad, c, rfl, fun j hj => by simp at hj⟩
    · exact ⟨_, cap, rfl, fun j hj => ⟨b, off, rfl, hc j hj⟩⟩
  clear hP
  have hmk := run_make_row' (P := Try.prog) 34 2 (.int .i64 0) 8 Try.underlying34 info_i64 rfl .i64 .i64 (n + 1) (by omega) (by omega)
  have HU := hideD hu
  have NX : Hid (∀ I i, 1 ≤ I → I ≤ l.length → valI l (I + 1) i = if i = I then l.getD (I - 1) 0 else valI l I i) := fun I i => valI_next l I i
  have EN : Hid (∀ I i, n < I ∨ l.length < I → 1 ≤ I → i ≤ n → valI l I i = valU l i) := fun I i => valI_end l I n i
  have ON : Hid (∀ i, valI l 1 i = 0) := valI_one l
  clear hu
  generalize hm : l.length = m at *
  have HM := hideD hm
  clear hm
  have e0 : ((n + 1 : Nat) : Int) = (n : Int) + 1 := by omega
  have hm1 : (m : Int) ≤ 9223372036854775807 := by omega
  rw [e0] at hmk
  clear e0
  go_enter Try.func8, Try.ntmps8
  go_wp2_with fail
  have Z0 : Hid (∀ i, i ≤ n → (w.alloc (.cells (madeCells #[.int .i64 0] (n + 1)) 2)).cell? ⟨w.heap.size, i, none⟩ = some (.int .i64 (valI l 1 i))) := fun i hi => by
    have hi' : i < n + 1 := by omega
    rw [ON.out, World.cell?_alloc_at _ _ _ _ rfl]
    simp [madeCells, hi', Nat.mod_one]
  have F0 : Hid (∀ i, (w.alloc (.cells (madeCells #[.int .i64 0] (n + 1)) 2)).frozen? ⟨w.heap.size, i, none⟩ = false) := fun i => by simp [go_sem]
  have B0 := hideD (below_one w (.cells (madeCells #[.int .i64 0] (n + 1)) 2))
  have lg : w.heap.size < w.heap.size + 1 := by omega
  generalize w.alloc (.cells (madeCells #[.int .i64 0] (n + 1)) 2) = W at *
  clear hmk
  go_loopw [6] (fun s wr => ∃ (I : Nat), 1 ≤ I ∧ I ≤ n + 1 ∧ s = .int .i64 I ∧ Hid (∀ i, i ≤ n → wr.cell? ⟨w.heap.size, i, none⟩ = some (.int .i64 (valI l I i))) ∧ Hid (∀ i, wr.frozen? ⟨w.heap.size, i, none⟩ = false) ∧ Hid (Below w.heap.size w wr)) (fun s _ => n + 1 - (intOf s).toNat)
  case atStart => exact ⟨1, by omega, by omega, rfl, Z0, F0, B0⟩
  case round =>
    obtain ⟨I, I1, hI, rfl, Z, Fz, B⟩ := hrel
    clear Z0 F0 B0
    by_cases ci : I ≤ n
    · by_cases cl : I ≤ m
      · obtain ⟨b, off, rfl, hc⟩ := HL.out (I - 1) (by omega)
        have c1 := kc _ _ B.out hc
        have u := HU.out (I - 1) (by omega)
        have NXI : Hid (∀ i, valI l (I + 1) i = if i = I then l.getD (I - 1) 0 else valI l I i) := fun i => NX.out I i I1 (by omega)
        have z1 := Z.out I ci
        have f1 := Fz.out I
        obtain ⟨u0, u1⟩ := u
        clear hc
        generalize l.getD (I - 1) 0 = x at *
        have e1 : IntKind.i64.wrap ((I : Int) - 1) = ((I - 1 : Nat) : Int) := by rw [IntKind.wrap_i64]; omega
        have e2 : ((I : Int) - 1) = ((I - 1 : Nat) : Int) := by omega
        have e3 : IntKind.i64.wrap x = x := by rw [IntKind.wrap_i64]; omega
        have ZN : Hid (∀ i, i ≤ n → (wr.setCell ⟨w.heap.size, I, none⟩ (.int .i64 x)).cell? ⟨w.heap.size, i, none⟩ = some (.int .i64 (valI l (I + 1) i))) := fun i hi => by
          rw [NXI.out i]
          by_cases q : i = I
          · subst q
            rw [World.cell?_setCell_same _ _ _ (Z.out i hi), if_pos rfl]
          · rw [World.cell?_setCell_other _ _ _ _ (by intro e; injection e; omega), if_neg q]
            exact Z.out i hi
        have FN : Hid (∀ i, (wr.setCell ⟨w.heap.size, I, none⟩ (.int .i64 x)).frozen? ⟨w.heap.size, i, none⟩ = false) := fun i => by
          rw [World.frozen?_setCell]
          exact Fz.out i
        have BN : Hid (Below w.heap.size w (wr.setCell ⟨w.heap.size, I, none⟩ (.int .i64 x))) := Below.setCell (p := ⟨w.heap.size, I, none⟩) B.out (Nat.le_refl _) _
        generalize hk : I - 1 = k at *
        have HK := hideD hk
        have k0 : (0 : Int) ≤ (k : Int) := by omega
        have k1 : (k : Int) < (m : Int) := by omega
        have i0 : (0 : Int) ≤ (I : Int) := by omega
        have i1 : (I : Int) < (n : Int) + 1 := by omega
        have i2 : (I : Int) ≤ (n : Int) := by omega
        have i3 : (I : Int) ≤ (m : Int) := by omega
        clear Z Fz NXI hk
        go_wp2_with fail
        go_roundw
        case rel => exact ⟨I + 1, by omega, by omega, by go_num, ZN, FN, BN⟩
        case measure => simp [intOf]; omega
      · have ZE : Hid (∀ i, i ≤ n → wr.cell? ⟨w.heap.size, i, none⟩ = some (.int .i64 (valU l i))) := fun i hi => by
          rw [← EN.out I i (.inr (by have := HM.out; omega)) I1 hi]
          exact Z.out i hi
        have i3 : decide ((I : Int) ≤ (m : Int)) = false := by simp; omega
        go_wp2_with fail
        go_ret
        exact ⟨⟨_, _, rfl, Nat.le_refl _, ZE.out⟩, B.out⟩
    · have ZE : Hid (∀ i, i ≤ n → wr.cell? ⟨w.heap.size, i, none⟩ = some (.int .i64 (valU l i))) := fun i hi => by
        rw [← EN.out I i (.inl (by omega)) I1 hi]
        exact Z.out i hi
      go_wp2_with fail
      go_ret
      exact ⟨⟨_, _, rfl, Nat.le_refl _, ZE.out⟩, B.out⟩
end Go.Proofs.Ytfmfanbhlgcegaa
