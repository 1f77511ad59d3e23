/-
  The contracts of ops: Reset, Free.
-/
import Derived.Test.YtjanibholjimkaaQ23
namespace Go.Proofs.Ytjanibholjimkaa
open Go.RowKit
set_option linter.unusedVariables false
set_option maxRecDepth 100000
def limM (r : Mat) (i j : Nat) (v : Int) : Mat := upd r i j (min (r i j) v)
theorem limM_32 {r : Mat} (h : R32 r) {i j : Nat} {v : Int} (h0 : -2147483648 ≤ v) : R32 (limM r i j v) := h.upd (by have := (h i j).1; omega) (by have := (h i j).2; omega)
def rstM (n x : Nat) (k : Int) (r : Mat) : Nat → Mat
  | 0 => freeK x (n + 1) r
  | 1 => limM (freeK x (n + 1) r) x 0 (2 * k + 1)
  | _ => limM (limM (freeK x (n + 1) r) x 0 (2 * k + 1)) 0 x (-(2 * k) + 1)
set_option maxHeartbeats 2000000 in
theorem reset_any (b n x : Nat) (k : Int) (c : Row) (w : World) (h : n ≤ 8) (hz : ZoneAt w b n c) (hc : C32 c) (hx : x ≤ n) (hs : setE n x k = 0) (k0 : 0 ≤ k) (k1 : k ≤ 1048576) :
    Calls Try.prog 10 #[.pointer (some ⟨b, 0, none⟩), .int .i64 x, .int .i64 k] w fun e w' => OpsOut w' w.heap.size n e (rstM n x k (oR n c ((n + 1) * (n + 1))) 2) ∧ Below w.heap.size w w' := by
  have HS := settable_any b n c x k w h hz
  rw [hs] at HS
  have HS := hideD HS
  have HD : Hid (∀ w', Below w.heap.size w w' → _) := fun w' hb => odraft_any b n c w' h (hz.past hb)
  have H32 := hideD (oR_32 (n := n) (K := (n + 1) * (n + 1)) hc)
  have HF : Hid (∀ d r w, ODraft w d n r → _) := fun d r w hD => free_any d n x r w h (by omega) hD
  have HE : Hid (∀ w, _) := fun w => exactly_any x k w k0 k1
  have HL1 : Hid (∀ d r w, ODraft w d n r → _) := fun d r w hD => limit_any d n x 0 (2 * k + 1) r w (by omega) (by omega) hD
  have HL2 : Hid (∀ d r w, ODraft w d n r → _) := fun d r w hD => limit_any d n 0 x (-(2 * k) + 1) r w (by omega) (by omega) hD
  generalize oR n c ((n + 1) * (n + 1)) = r at *
  clear hz hc
  go_enter Try.func10, Try.ntmps10
  go_wp2_with fail
  refine HS.out.mono ?_
  rintro z w1 ⟨rfl, hb⟩
  have HD1 := hideD (HD.out _ hb)
  have hB1 := hideD hb
  clear hb HD HS
  go_wp2_with fail
  refine HD1.out.mono ?_
  rintro e w2 ⟨⟨d, rfl, hd, hD⟩, hb⟩
  have hd' : w.heap.size ≤ d := Nat.le_trans hB1.out.size hd
  have HF1 := hideD (HF.out d _ _ hD)
  have hB2 := hideD (beyondD hB1.out hb)
  clear hb hD HD1 HF hB1 hd
  go_wp2_with fail
  refine HF1.out.mono ?_
  rintro e w3 ⟨rfl, hD, hb, -⟩
  have hD3 := hideD hD
  have hB3 := hideD (hB2.out.trans (hb.mono hd'))
  clear hb hD HF1 hB2
  go_wp2_with fail
  refine (HE.out _).mono ?_
  rintro e w4 ⟨⟨g, rfl, hg, g0, g1, g2, g3, g4, g5⟩, hb⟩
  have hD4 := hideD (hD3.out.past hb)
  have hB4 := hideD (beyondD hB3.out hb)
  have hg' : Hid (d < g) := by have := hD3.out.lt; show _ < _; omega
  have gl : Hid (g < w4.heap.size) := World.block_lt_of_cell? _ _ g0
  clear hb hD3 hB3 HE hg
  have e0 : ((x : Int) = (x : Int)) := rfl
  generalize hy : 2 * k + 1 = y at *
  generalize hu : -(2 * k) + 1 = u at *
  have HY := hideD hy
  have HU := hideD hu
  clear hy hu e0
  go_wp2_with fail
  go_loopw [28] (fun s wr => ∃ (K : Nat), K ≤ 2 ∧ s = .int .i64 (K : Int) ∧ Hid (ODraft wr d n (rstM n x k r K)) ∧ Hid (Below w.heap.size w wr) ∧ Hid (∀ p, p.block = g → wr.cell? p = w4.cell? p)) (fun s _ => 2 - (intOf s).toNat)
  case atStart => exact ⟨0, by omega, rfl, hD4, hB4, fun p hp => rfl⟩
  case round =>
    obtain ⟨K, hK, rfl, hD, hB, hG⟩ := hrel
    clear hD4 hB4
    have f0 := (hG.out ⟨g, 0, none⟩ rfl).trans g0
    have f1 := (hG.out ⟨g, 1, none⟩ rfl).trans g1
    have f2 := (hG.out ⟨g, 2, none⟩ rfl).trans g2
    have f3 := (hG.out ⟨g, 3, none⟩ rfl).trans g3
    have f4 := (hG.out ⟨g, 4, none⟩ rfl).trans g4
    have f5 := (hG.out ⟨g, 5, none⟩ rfl).trans g5
    obtain rfl | rfl | rfl : K = 0 ∨ K = 1 ∨ K = 2 := by omega
    · have B5 := below_one wr (.cells #[.int .i64 x, .int .i64 0, .int .i32 y] 43)
      have HL := hideD (HL1.out d _ _ (hD.out.past B5))
      have hB5 := hideD (beyondD hB.out B5)
      have O5 := hideD (OnlyB.below (d := d) B5)
      clear B5
      go_wp2_with fail
      refine HL.out.mono ?_
      rintro e w5 ⟨rfl, hD5, hb, ho⟩
      have hD6 := hideD hD5
      have hB6 := hideD (hB5.out.trans (hb.mono hd'))
      have hG6 : Hid (∀ p, p.block = g → w5.cell? p = w4.cell? p) := fun p hp => ((O5.out.trans ho).cell (by have := hG.out; have q := World.block_lt_of_cell? _ _ f0; rw [hp]; exact q) (by have := hg'.out; omega)).trans (hG.out p hp)
      clear hD5 hb ho HL hB5 O5 hD hB hG
      go_wp2_with fail
      go_roundw
      case rel => exact ⟨1, by omega, rfl, by rw [← HY.out] at hD6; exact hD6, hB6, hG6⟩
      case measure => simp [intOf]
    · have B5 := below_one wr (.cells #[.int .i64 0, .int .i64 x, .int .i32 u] 43)
      have HL := hideD (HL2.out d _ _ (hD.out.past B5))
      have hB5 := hideD (beyondD hB.out B5)
      have O5 := hideD (OnlyB.below (d := d) B5)
      clear B5
      go_wp2_with fail
      refine HL.out.mono ?_
      rintro e w5 ⟨rfl, hD5, hb, ho⟩
      have hD6 := hideD hD5
      have hB6 := hideD (hB5.out.trans (hb.mono hd'))
      have hG6 : Hid (∀ p, p.block = g → w5.cell? p = w4.cell? p) := fun p hp => ((O5.out.trans ho).cell (by have q := World.block_lt_of_cell? _ _ f0; rw [hp]; exact q) (by have := hg'.out; omega)).trans (hG.out p hp)
      clear hD5 hb ho HL hB5 O5 hD hB hG
      go_wp2_with fail
      go_roundw
      case rel => exact ⟨2, by omega, rfl, by rw [← HU.out] at hD6; exact hD6, hB6, hG6⟩
      case measure => simp [intOf]
    · have HZ := hideD (ozone_out d n w.heap.size _ wr h hD.out (limM_32 (limM_32 (freeK_32 H32.out _) (by omega)) (by omega)) hB.out.size)
      go_wp2_with fail
      refine HZ.out.mono ?_
      rintro e w2 ⟨p, kk, rfl, ho, hb⟩
      go_wp2_with fail
      exact bodyPost_ret (v := .tuple #[.pointer p, .int .i64 kk]) (by simp [results, Try.results10, go_sem]) rfl ⟨ho.out, beyondD hB.out hb.out⟩
end Go.Proofs.Ytjanibholjimkaa
