/-
  What 'both' tells where both tell a zone.
-/
import Derived.Test.YtbcfaepmhlanjaaEi
namespace Go.Proofs.Ytbcfaepmhlanjaa
open Go.RowKit
set_option linter.unusedVariables false
set_option maxRecDepth 100000
set_option maxHeartbeats 4000000 in
theorem both_zone (n m : Nat) (v : Value) (c : Row) (w : World) (hn : n ≤ 8) (hm : m = (n + 1) * (n + 1))
    (H1 : Hid (∀ w', Below w.heap.size w w' → Calls Try.prog 26 #[.int .i64 n, v] w' fun x w'' => Below w'.heap.size w' w'' ∧ ZoneOut w'' w'.heap.size n x (some c)))
    (H2 : Hid (∀ w', Below w.heap.size w w' → Calls Try.prog 27 #[.int .i64 n, v] w' fun x w'' => Below w'.heap.size w' w'' ∧ RZoneOut w'' w'.heap.size n x (some (listOf c m)))) :
    Calls Try.prog 5 #[.int .i64 n, v] w fun x w' => (∃ b r, x = .returned (.tuple #[.pointer (some ⟨b, 0, none⟩), .pointer (some ⟨r, 0, none⟩), .bool true]) ∧ w.heap.size ≤ b ∧ ZoneAt w' b n c ∧ RZone w' w.heap.size r n (listOf c m)) ∧ Below w.heap.size w w' := by
  have q81 : m ≤ 81 := by rw [hm]; exact Nat.mul_le_mul (show n + 1 ≤ 9 by omega) (show n + 1 ≤ 9 by omega)
  have hp : 0 < m := by rw [hm]; exact Nat.mul_pos (by omega) (by omega)
  have hl := listOf_len c m
  have HM := hideD hm
  clear hm
  generalize hL : listOf c m = L at *
  have HL := hideD hL
  clear hL
  go_enter Try.func5, Try.ntmps5
  go_wp2_with fail
  refine (H1.out _ (Below.refl _ _)).mono ?_
  rintro x w1 ⟨hb1, b, lb, rfl, hz⟩
  go_wp2_with fail
  refine (H2.out _ hb1).mono ?_
  rintro x w2 ⟨hb2, r, rfl, g, cap, r0, r1, r2, r3, r4⟩
  rw [hl] at r1
  have z2 := hz.past hb2
  have B2 := hideD (beyondD hb1 hb2)
  have s1 := hb1.size
  have HC := hideD (cells_any b n c w2 z2 hn)
  rw [← HM.out, HL.out] at HC
  have Z2 := hideD z2
  have R0 := hideD r0
  have R1 := hideD r1
  have R4 := hideD r4
  clear hb1 hb2 H1 H2 hz z2 r0 r1 r4
  go_wp2_with fail
  refine HC.out.mono ?_
  rintro x w3 ⟨⟨v1, rfl, g1, cap1, rfl, l1, l2, row1⟩, hb3⟩
  rw [hl]
  have HR := hideD (rcells_any r g n cap m L w3 hl (by omega) hp (kc _ _ hb3 R1.out) (R4.out.later hb3 (World.block_lt_of_cell? _ _ (R4.out 0 (by omega)))))
  have B3 := hideD (beyondD B2.out hb3)
  have Z3 := hideD (Z2.out.past hb3)
  have Q0 := hideD (kc _ _ hb3 R0.out)
  have Q1 := hideD (kc _ _ hb3 R1.out)
  have Q4 := hideD (R4.out.later hb3 (World.block_lt_of_cell? _ _ (R4.out 0 (by omega))))
  have ROW1 := hideD row1
  clear HC hb3 B2 Z2 R0 R1 R4 row1
  go_wp2_with fail
  refine HR.out.mono ?_
  rintro x w4 ⟨⟨v2, rfl, g2, cap2, rfl, l3, l4, row2⟩, hb4⟩
  rw [hl]
  have HS := hideD (sameCells_same g1 g2 cap1 cap2 m L L w4 (ROW1.out.later hb4 l2) row2 hl hl (by omega))
  rw [sc_of_eq _ _ _ (fun _ _ => rfl)] at HS
  have B4 := hideD (beyondD B3.out hb4)
  have Z4 := hideD (Z3.out.past hb4)
  have P0 := hideD (kc _ _ hb4 Q0.out)
  have P1 := hideD (kc _ _ hb4 Q1.out)
  have P4 := hideD (Q4.out.later hb4 (World.block_lt_of_cell? _ _ (Q4.out 0 (by omega))))
  clear HR hb4 B3 Z3 Q0 Q1 Q4 row2 ROW1
  go_wp2_with fail
  refine HS.out.mono ?_
  rintro x w5 ⟨rfl, k, rfl⟩
  go_wp2_with fail
  refine bodyPost_ret (v := .tuple #[.pointer (some ⟨b, 0, none⟩), .pointer (some ⟨r, 0, none⟩), .bool true]) (by simp [results, Try.results5, go_sem]) rfl ⟨⟨b, r, rfl, by omega, Z4.out.drewN k, g, cap, P0.out, by rw [hl]; exact P1.out, by omega, by omega, P4.out⟩, below_drewN B4.out k⟩
end Go.Proofs.Ytbcfaepmhlanjaa
