/-
  What must be whatever is asked (live of the statements of ops).
-/
import Derived.Test.YtfamdajjfpjlaaaDoorOh
import Derived.Test.YtfamdajjfpjlaaaDoorOi
namespace Go.Proofs.YtfamdajjfpjlaaaDoor
open Go.RowKit
set_option linter.unusedVariables false
set_option maxRecDepth 100000
theorem narB_32 (x : Int) : -2147483648 ≤ narB x ∧ narB x ≤ 2147483647 := by
  unfold narB
  split
  · omega
  · split <;> omega
theorem zoneR_32 {n : Nat} {r : Mat} {c : Row} (h : zoneR n r = some c) : C32 c := by
  intro k
  unfold zoneR at h
  split at h
  · injection h with h
    subst h
    show -2147483648 ≤ (0 : Int) ∧ (0 : Int) ≤ 2147483647
    omega
  · split at h
    · injection h with h
      subst h
      show -2147483648 ≤ cellsUpto _ _ _ k ∧ cellsUpto _ _ _ k ≤ 2147483647
      unfold cellsUpto
      split
      · exact narB_32 _
      · omega
    · cases h
theorem out_zone {w' : World} {B n : Nat} {e : Ending} {r : Mat} {l l2 : List Int} (h : OpsOut w' B n e r) (hl : rowsL n r (n + 1) = l) (ha : allRight l ((n + 1) * (n + 1)) = true) (hz : (zoneR n (tgAll n l ((n + 1) * (n + 1)) (startR n (n + 1) 0))).map (fun c => listOf c ((n + 1) * (n + 1))) = some l2) :
    ∃ b c, B ≤ b ∧ e = .returned (.tuple #[.pointer (some ⟨b, 0, none⟩), .int .i64 0]) ∧ ZoneAt w' b n c ∧ C32 c ∧ listOf c ((n + 1) * (n + 1)) = l2 := by
  rcases h with ⟨h1, -⟩ | ⟨-, h2⟩
  · rw [hl, ha] at h1
    cases h1
  · rw [hl] at h2
    cases ez : zoneR n (tgAll n l ((n + 1) * (n + 1)) (startR n (n + 1) 0)) with
    | none => rw [ez] at hz; cases hz
    | some c =>
      rw [ez] at h2 hz
      obtain ⟨b, hb, rfl, hZ⟩ := h2
      exact ⟨b, c, hb, rfl, hZ, zoneR_32 ez, by simpa using hz⟩
theorem at9_list {c : Row} {a0 a1 a2 a3 a4 a5 a6 a7 a8 : Int} (h : listOf c ((2 + 1) * (2 + 1)) = [a0, a1, a2, a3, a4, a5, a6, a7, a8]) : c 0 = a0 ∧ c 1 = a1 ∧ c 2 = a2 ∧ c 3 = a3 ∧ c 4 = a4 ∧ c 5 = a5 ∧ c 6 = a6 ∧ c 7 = a7 ∧ c 8 = a8 := by
  simpa [listOf, List.range_succ] using h
theorem row_up {c : Row} (h : listOf c ((2 + 1) * (2 + 1)) = [1, 1, 1, 1, 1, 1, 1, 1, 1]) : rowsL 2 (upM (2 + 1) (oR 2 c ((2 + 1) * (2 + 1)))) (2 + 1) = [1, 1, 1, 2147483647, 1, 1, 2147483647, 1, 1] := by
  obtain ⟨h0, h1, h2, h3, h4, h5, h6, h7, h8⟩ := at9_list h
  simp [rowsL, listOf, flat, upM, oR, List.range_succ, *]
def L6 : Lims := ⟨1, fun _ => 1, fun _ => 0, fun _ => 6⟩
theorem row_con {c : Row} (h : listOf c ((2 + 1) * (2 + 1)) = [1, 1, 1, 2147483647, 1, 1, 2147483647, 1, 1]) : rowsL 2 (limK L6 L6.q (oR 2 c ((2 + 1) * (2 + 1)))) (2 + 1) = [1, 1, 1, 6, 1, 1, 2147483647, 1, 1] := by
  obtain ⟨h0, h1, h2, h3, h4, h5, h6, h7, h8⟩ := at9_list h
  simp [rowsL, listOf, flat, L6, limK, limM, upd, oR, List.range_succ, *]
  decide
theorem row_rst {c : Row} (h : listOf c ((2 + 1) * (2 + 1)) = [1, 1, 1, 6, 1, 1, 6, 1, 1]) : rowsL 2 (rstM 2 1 0 (oR 2 c ((2 + 1) * (2 + 1))) 2) (2 + 1) = [1, 1, 1, 1, 2147483647, 2147483647, 6, 6, 1] := by
  obtain ⟨h0, h1, h2, h3, h4, h5, h6, h7, h8⟩ := at9_list h
  simp [rowsL, listOf, flat, rstM, limM, freeK, freeS, upd, oR, List.range_succ, *]
  decide
theorem z_zero : (zoneR 2 (zeroR 2 (startR 2 (2 + 1) 0))).map (fun c => listOf c ((2 + 1) * (2 + 1))) = some [1, 1, 1, 1, 1, 1, 1, 1, 1] := by kernel_rfl
theorem z_up : (zoneR 2 (tgAll 2 [1, 1, 1, 2147483647, 1, 1, 2147483647, 1, 1] ((2 + 1) * (2 + 1)) (startR 2 (2 + 1) 0))).map (fun c => listOf c ((2 + 1) * (2 + 1))) = some [1, 1, 1, 2147483647, 1, 1, 2147483647, 1, 1] := by kernel_rfl
theorem z_con : (zoneR 2 (tgAll 2 [1, 1, 1, 6, 1, 1, 2147483647, 1, 1] ((2 + 1) * (2 + 1)) (startR 2 (2 + 1) 0))).map (fun c => listOf c ((2 + 1) * (2 + 1))) = some [1, 1, 1, 6, 1, 1, 6, 1, 1] := by kernel_rfl
theorem z_rst : (zoneR 2 (tgAll 2 [1, 1, 1, 1, 2147483647, 2147483647, 6, 6, 1] ((2 + 1) * (2 + 1)) (startR 2 (2 + 1) 0))).map (fun c => listOf c ((2 + 1) * (2 + 1))) = some [1, 1, 1, 1, 1, 1, 6, 6, 1] := by kernel_rfl
def txtB : List UInt8 := [50, 58, 32, 120, 49, 45, 120, 48, 60, 51, 32, 120, 49, 45, 120, 50, 60, 61, 48, 32, 120, 50, 45, 120, 48, 60, 51, 32, 120, 50, 45, 120, 49, 60, 61, 48]
def txtC : List UInt8 := [50, 58, 32, 120, 49, 45, 120, 48, 60, 61, 48, 32, 120, 49, 45, 120, 50, 60, 61, 48, 32, 120, 50, 45, 120, 48, 60, 51, 32, 120, 50, 45, 120, 49, 60, 51]
theorem accS_congr (n : Nat) (c d : Row) : ∀ K, (∀ k, k < K → c k = d k) → accS n c K = accS n d K
  | 0, _ => rfl
  | K + 1, h => by
    unfold accS
    rw [accS_congr n c d K fun k hk => h k (by omega), h K (by omega)]
theorem printZ_congr (n : Nat) (c d : Row) (h : ∀ k, k < (n + 1) * (n + 1) → c k = d k) : printZ n c = printZ n d := by
  unfold printZ
  rw [h 0 (Nat.mul_pos (by omega) (by omega)), accS_congr n c d _ h]
theorem print_of {c : Row} {l : List Int} (h : listOf c ((2 + 1) * (2 + 1)) = l) : printZ 2 c = printZ 2 (fun k => l.getD k 0) := by
  subst h
  exact printZ_congr 2 c _ fun k hk => (listOf_get c _ k hk).symm
theorem p_con : printZ 2 (fun k => [1, 1, 1, 6, 1, 1, 6, 1, 1].getD k 0) = txtB := by kernel_rfl
theorem p_rst : printZ 2 (fun k => [1, 1, 1, 1, 1, 1, 6, 6, 1].getD k 0) = txtC := by kernel_rfl
theorem con_zone {w' : World} {B n : Nat} {e : Ending} {L : Lims} {r : Mat} (h : ConOut w' B n e L r) (h1 : bndA n L L.q = true) (h2 : rgtA L L.q = true) : OpsOut w' B n e (limK L L.q r) := by
  rcases h with ⟨h3, -⟩ | ⟨-, h3, -⟩ | ⟨-, -, h3⟩
  · rw [h1] at h3; cases h3
  · rw [h2] at h3; cases h3
  · exact h3
set_option maxHeartbeats 4000000 in
theorem olive_any (w : World) (ht : Pow w) : Calls Tryd.prog 17 #[] w fun e w' => e = .returned (.bool true) ∧ Below w.heap.size w w' := by
  have HP := hideD ht
  have HZ := hideD (zero_dbm 2 w (by omega))
  obtain ⟨c1, e1, hc1⟩ : ∃ c, zoneR 2 (zeroR 2 (startR 2 (2 + 1) 0)) = some c ∧ listOf c ((2 + 1) * (2 + 1)) = [1, 1, 1, 1, 1, 1, 1, 1, 1] := by
    have := z_zero
    cases ez : zoneR 2 (zeroR 2 (startR 2 (2 + 1) 0)) with
    | none => rw [ez] at this; cases this
    | some c => rw [ez] at this; exact ⟨c, rfl, by simpa using this⟩
  rw [e1] at HZ
  have r1 := zoneR_32 e1
  clear ht e1
  go_enter Tryd.func17, Tryd.ntmps17
  go_wp2_with fail
  refine HZ.out.mono ?_
  rintro e w1 ⟨hb1, z1, l1, rfl, hZ1⟩
  have HU := hideD (up_any z1 2 c1 w1 (by omega) hZ1 r1)
  have B1 := hideD hb1
  clear HZ hb1 hZ1
  go_wp2_with fail
  refine HU.out.mono ?_
  rintro e w2 ⟨ho, hb2⟩
  obtain ⟨z2, c2, l2, rfl, hZ2, r2, hc2⟩ := out_zone ho (row_up hc1) (by kernel_rfl) z_up
  have B2 := hideD (beyondD B1.out hb2)
  have BL := below_one w2 (.cells #[.int .i64 1, .int .i64 0, .int .i32 6] 83)
  have hR : LimRow (w2.alloc (.cells #[.int .i64 1, .int .i64 0, .int .i32 6] 83)) w2.heap.size 0 L6 := fun k hk => by
    obtain rfl : k = 0 := by simp [L6] at hk; omega
    simp [go_sem, L6]
  have HC := hideD (con_main z2 2 w2.heap.size 0 1 c2 L6 _ (by omega) (hZ2.past BL) r2 hR (by simp) (fun k hk => by simp [L6]) (by simp [L6]))
  have B3 := hideD (beyondD B2.out BL)
  clear HU ho hb2 hZ2 B1 B2 BL hR
  go_wp2_with fail
  refine HC.out.mono ?_
  rintro e w3 ⟨ho, hb3⟩
  obtain ⟨z3, c3, l3, rfl, hZ3, r3, hc3⟩ := out_zone (con_zone ho (by kernel_rfl) (by kernel_rfl)) (row_con hc2) (by kernel_rfl) z_con
  have B4 := hideD (beyondD B3.out hb3)
  have HR := hideD (reset_any z3 2 1 0 c3 w3 (by omega) hZ3 r3 (by omega) (by decide) (by omega) (by omega))
  have hZ3' := hideD hZ3
  clear HC ho hb3 B3 hZ3
  go_wp2_with fail
  refine HR.out.mono ?_
  rintro e w4 ⟨ho, hb4⟩
  obtain ⟨z4, c4, l4, rfl, hZ4, r4, hc4⟩ := out_zone ho (row_rst hc3) (by kernel_rfl) z_rst
  have B5 := hideD (beyondD B4.out hb4)
  have hZ3 := hideD (hZ3'.out.past hb4)
  have HP3 := printZ_any z3 2 c3 w4 (by omega) hZ3.out (pow_later HP.out B5.out)
  rw [print_of hc3, p_con] at HP3
  have HP3 := hideD HP3
  have hZ4' := hideD hZ4
  clear HR ho hb4 B4 hZ4 hZ3'
  go_wp2_with fail
  refine HP3.out.mono ?_
  rintro e w5 ⟨rfl, hb5⟩
  have B6 := hideD (beyondD B5.out hb5)
  have HP4 := printZ_any z4 2 c4 w5 (by omega) (hZ4'.out.past hb5) (pow_later HP.out B6.out)
  rw [print_of hc4, p_rst] at HP4
  have HP4 := hideD HP4
  clear HP3 B5 hb5 hZ3 hZ4'
  unfold txtB
  go_wp2_with fail
  refine HP4.out.mono ?_
  rintro e w6 ⟨rfl, hb6⟩
  unfold txtC
  go_wp2_with fail
  go_ret
  exact ⟨rfl, beyondD B6.out hb6⟩
end Go.Proofs.YtfamdajjfpjlaaaDoor
