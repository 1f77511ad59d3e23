/-
  The walk of the statement DbmForm where no zone is empty.
-/
import Derived.Test.YtmnckhchpbdfjaaHh
namespace Go.Proofs.Ytmnckhchpbdfjaa
open Go.RowKit
set_option linter.unusedVariables false
set_option maxRecDepth 100000
set_option maxHeartbeats 8000000 in
theorem form_full (N m : Nat) (v v' : Value) (c d : Row) (p q : Mat) (w : World) (N8 : N ≤ 8) (hm : m = (N + 1) * (N + 1)) (hc : Made N c) (hd : Made N d) (hp : decide (c 0 < 1) = false) (hd' : decide (d 0 < 1) = false) (hF : Full N m p c) (hF' : Full N m q d)
    (h1 : ∀ w', Below w.heap.size w w' → Calls Try.prog 4 #[.int .i64 N, v] w' fun x w'' => Below w'.heap.size w' w'' ∧ ZoneOut w'' w'.heap.size N x (some c))
    (h2 : ∀ w', Below w.heap.size w w' → Calls Try.prog 4 #[.int .i64 N, v'] w' fun x w'' => Below w'.heap.size w' w'' ∧ ZoneOut w'' w'.heap.size N x (some d)) :
    Calls Try.prog 3 #[.int .i64 N, v, v'] w fun x w' => x = .returned (.bool true) ∧ Below w.heap.size w w' := by
  have m81 : m ≤ 81 := by rw [hm]; exact Nat.mul_le_mul (show N + 1 ≤ 9 by omega) (show N + 1 ≤ 9 by omega)
  have mp : 0 < m := by rw [hm]; exact Nat.mul_pos (by omega) (by omega)
  have CE : Hid (∀ w b e, ZoneAt w b N e → Calls Try.prog 7 #[.pointer (some ⟨b, 0, none⟩)] w fun x w' => (∃ v, x = .returned v ∧ OwnRow w' w.heap.size v (listOf e m)) ∧ Below w.heap.size w w') := fun w b e h => by
    have := cells_any b N e w h N8
    rw [← hm] at this
    exact this
  have EMX : Hid (∀ w' b, ZoneAt w' b N c → Calls Try.prog 8 #[.pointer (some ⟨b, 0, none⟩)] w' fun x w'' => x = .returned (.bool false) ∧ Below w'.heap.size w' w'') := fun w' b h => by
    have := empty_any b N c w' N8 h
    rw [hp] at this
    exact this
  have EMY : Hid (∀ w' b, ZoneAt w' b N d → Calls Try.prog 8 #[.pointer (some ⟨b, 0, none⟩)] w' fun x w'' => x = .returned (.bool false) ∧ Below w'.heap.size w' w'') := fun w' b h => by
    have := empty_any b N d w' N8 h
    rw [hd'] at this
    exact this
  have EQ : Hid (∀ w' b o, ZoneAt w' b N c → ZoneAt w' o N d → Calls Try.prog 9 #[.pointer (some ⟨b, 0, none⟩), .pointer (some ⟨o, 0, none⟩)] w' fun x w'' => x = .returned (.bool (eqUpto c d 81)) ∧ Below w'.heap.size w' w'') := fun w' b o z1 z2 =>
    (equal_any b o N c d w' z1 z2).mono fun x w'' ⟨hx, k, hw⟩ => ⟨hx, by rw [hw]; exact below_draw _ _⟩
  have SC : Hid (∀ w' g1 c1 g2 c2, RowAt w' g1 0 (listOf c m) → RowAt w' g2 0 (listOf d m) → Calls Try.prog 10 #[.slice (some ⟨g1, 0, none⟩) m c1, .slice (some ⟨g2, 0, none⟩) m c2] w' fun x w'' => x = .returned (.bool (eqUpto c d 81)) ∧ Below w'.heap.size w' w'') := fun w' g1 c1 g2 c2 r1 r2 => by
    have := sameCells_same g1 g2 c1 c2 m _ _ w' r1 r2 (listOf_len _ _) (listOf_len _ _) m81
    rw [← equal_same hc hd hm m81] at this
    exact this.mono fun x w'' ⟨hx, k, hw⟩ => ⟨hx, by rw [hw]; exact below_draw _ _⟩
  have IN : Hid (∀ w' b o, ZoneAt w' b N c → ZoneAt w' o N d → Calls Try.prog 11 #[.pointer (some ⟨b, 0, none⟩), .pointer (some ⟨o, 0, none⟩)] w' fun x w'' => x = .returned (.bool (nless c d m)) ∧ Below w'.heap.size w' w'') := fun w' b o z1 z2 => by
    have := includes_some b o N c d w' z1 z2 N8 hd'
    rw [← hm] at this
    exact this
  have NW : Hid (∀ w' g1 c1 g2 c2, RowAt w' g1 0 (listOf c m) → RowAt w' g2 0 (listOf d m) → Calls Try.prog 16 #[.slice (some ⟨g1, 0, none⟩) m c1, .slice (some ⟨g2, 0, none⟩) m c2] w' fun x w'' => x = .returned (.bool (nless c d m)) ∧ Below w'.heap.size w' w'') := fun w' g1 c1 g2 c2 r1 r2 =>
    (nowhere_any g1 g2 c1 c2 m c d w' r1 r2 m81).mono fun x w'' ⟨hx, k, hw⟩ => ⟨hx, by rw [hw]; exact below_draw _ _⟩
  have IS : Hid (∀ g cap w', g < w'.heap.size → RowAt w' g 0 (listOf c m) → Calls Try.prog 13 #[.int .i64 N, .slice (some ⟨g, 0, none⟩) m cap] w' fun e w'' => (∃ gv cv, e = .returned (.slice (some ⟨gv, 0, none⟩) (N + 1 : Nat) cv) ∧ w'.heap.size ≤ gv ∧ ValAt w'' gv N (gRounds N p ((N : Int) + 1) (N + 2) (fun _ => 0))) ∧ Below w'.heap.size w' w'') := fun g cap w' lg hR' =>
    inside_any N m g 0 cap _ p w' N8 hm (listOf_len _ _) hR' lg hF.closed (fun a b ha hb => by
      have lt : a * (N + 1) + b < m := by rw [hm]; exact pos_lt ha hb
      rw [listOf_get _ _ _ lt]
      exact ⟨hF.at hm a b ha hb, hF.ok hm a b ha hb⟩)
  have KE : Hid (∀ g cap gv capv w', RowAt w' g 0 (listOf c m) → ValAt w' gv N (gRounds N p ((N : Int) + 1) (N + 2) (fun _ => 0)) → Calls Try.prog 12 #[.int .i64 N, .slice (some ⟨g, 0, none⟩) m cap, .slice (some ⟨gv, 0, none⟩) (N + 1 : Nat) capv, .int .i64 ((N : Int) + 1)] w' fun e w'' => e = .returned (.bool true) ∧ Below w'.heap.size w' w'') := fun g cap gv capv w' hR' hV => by
    have hcl := hF.closed
    have kk := inside_keeps hcl (show (N : Int) + 1 = N + 1 from rfl)
    have kb : kB N (listOf c m) (gRounds N p ((N : Int) + 1) (N + 2) (fun _ => 0)) ((N : Int) + 1) = true := by
      rw [hF.cells]
      exact (closed_keeps N m p _ _ hm (by omega) hF.nar).2 kk
    have k0 : ∀ j, j ≤ N → -536870912 ≤ p 0 j := fun j hj => (cell_fin (low_fin hcl j hj) (hF.ok hm 0 j (by omega) hj)).2.2.2.2.1
    have K := keeps_any N m g 0 cap gv capv (listOf c m) _ ((N : Int) + 1) w' N8 hm (listOf_len _ _) hR' hV (fun k hk => by
      rw [listOf_get _ _ _ hk]
      exact hc.right k) (fun a ha => ⟨rounds_nonneg _ _ _ _ _, cur_bd N8 hcl rfl k0 (upper_rounds hcl rfl (upper_start hcl rfl) (N + 2)) a ha⟩) (by omega) (by omega)
    rw [kb] at K
    refine K.mono ?_
    rintro e w'' ⟨rfl, k, rfl⟩
    exact ⟨rfl, below_draw _ _⟩
  have BY : Hid (∀ g cap I J w', I ≤ N → J ≤ N → d (I * (N + 1) + J) < c (I * (N + 1) + J) → RowAt w' g 0 (listOf c m) → Calls Try.prog 15 #[.int .i64 N, .slice (some ⟨g, 0, none⟩) m cap, .int .i64 I, .int .i64 J, .int .i32 (d (I * (N + 1) + J))] w' fun e w'' => e = .returned (.bool true) ∧ Below w'.heap.size w' w'') := fun g cap I J w' hI hJ hlt hR' => by
    obtain ⟨ne, d0, d1⟩ := above_fin hF hF' hm hI hJ hlt
    exact beyond_any N m g 0 cap I J p c _ w' N8 hm hF hR' hI hJ ne d0 d1 hlt
  have AG : Hid (∀ I J K, I ≤ N → J ≤ N → K ≤ N → ((sumE [c (I * (N + 1) + K), c (K * (N + 1) + J)] == 0) && decide (sumB [c (I * (N + 1) + K), c (K * (N + 1) + J)] < c (I * (N + 1) + J))) = false) := fun I J K hI hJ hK => add_ge hF hm hI hJ hK
  have RC : Hid (∀ j, -2147483648 ≤ c j ∧ c j ≤ 2147483647) := fun j => hc.range j
  have LT : Hid (∀ i j, i ≤ N → j ≤ N → i * (N + 1) + j < m) := fun i j hi hj => by rw [hm]; exact pos_lt hi hj
  have WX : Hid (∀ I : Nat, I ≤ N → IntKind.i64.wrap ((I : Int) * ((N : Int) + 1)) = ((I * (N + 1) : Nat) : Int) ∧ wrap64 ((I : Int) * ((N : Int) + 1)) = ((I * (N + 1) : Nat) : Int)) := fun I hI => by
    have lt : I * (N + 1) + 0 < m := by rw [hm]; exact pos_lt hI (by omega)
    have : (I : Int) * ((N : Int) + 1) = ((I * (N + 1) : Nat) : Int) := by simp
    rw [this]
    generalize I * (N + 1) = z at *
    exact ⟨by rw [IntKind.wrap_i64]; omega, by unfold wrap64; omega⟩
  have EMM : Hid (IntKind.i64.wrap (((N : Int) + 1) * ((N : Int) + 1)) = (m : Int) ∧ wrap64 (((N : Int) + 1) * ((N : Int) + 1)) = (m : Int)) := by
    have : ((N : Int) + 1) * ((N : Int) + 1) = (m : Int) := by rw [hm]; simp
    show _ ∧ _
    rw [this]
    exact ⟨by rw [IntKind.wrap_i64]; omega, by unfold wrap64; omega⟩
  have lc := listOf_len c m
  have ld := listOf_len d m
  have H1 := hideD (h1 w (Below.refl _ _))
  have H2 := hideD h2
  clear h1 h2 hc hd hm hp hd' hF hF'
  have m1 : (m : Int) ≤ 81 := by omega
  go_enter Try.func3, Try.ntmps3
  go_wp2_with fail
  refine H1.out.mono ?_
  rintro x w1 ⟨hb1, b, lb, rfl, z1⟩
  have C2 := hideD (H2.out _ hb1)
  have Z1 := hideD z1
  have B1 := hideD hb1
  clear hb1 z1 H1 H2
  go_wp2_with fail
  refine C2.out.mono ?_
  rintro x w2 ⟨hb2, o, lo, rfl, z2⟩
  have X2 := hideD (Z1.out.past hb2)
  have Y2 := hideD z2
  have B2 := hideD (beyondD B1.out hb2)
  have C3 := hideD (CE.out _ _ _ X2.out)
  clear hb2 z2 C2 Z1 B1
  go_wp2_with fail
  refine C3.out.mono ?_
  rintro x w3 ⟨⟨v1, rfl, g1, cap1, rfl, lg1, l1, row1⟩, hb3⟩
  rw [lc]
  have X3 := hideD (X2.out.past hb3)
  have Y3 := hideD (Y2.out.past hb3)
  have R3 := hideD row1
  have B3 := hideD (beyondD B2.out hb3)
  have C4 := hideD (CE.out _ _ _ Y3.out)
  clear hb3 row1 C3 X2 Y2 B2 CE
  go_wp2_with fail
  refine C4.out.mono ?_
  rintro x w4 ⟨⟨v2, rfl, g2, cap2, rfl, lg2, l2, row2⟩, hb4⟩
  rw [ld]
  have X4 := hideD (X3.out.past hb4)
  have Y4 := hideD (Y3.out.past hb4)
  have R4 : Hid (RowAt w4 g1 0 (listOf c m)) := fun j hj => kc _ _ hb4 (R3.out j hj)
  have S4 := hideD row2
  have B4 := hideD (beyondD B3.out hb4)
  clear hb4 row2 C4 X3 Y3 B3 R3
  have CX := hideD (EMX.out w4 b X4.out)
  clear EMX
  go_wp2_with fail
  refine CX.out.mono ?_
  rintro x w5 ⟨rfl, hb⟩
  have hw := hb
  have CY := hideD (EMY.out w5 o (Y4.out.past hw))
  clear hb CX EMY
  go_wp2_with fail
  refine CY.out.mono ?_
  rintro x w6 ⟨rfl, hb⟩
  replace hw := beyondD hw hb
  have R6 : Hid (RowAt w6 g1 0 (listOf c m)) := fun j hj => kc _ _ hw (R4.out j hj)
  have l6 : Hid (g1 < w6.heap.size) := by
    show g1 < w6.heap.size
    exact World.block_lt_of_cell? _ _ (R6.out 0 (by rw [listOf_len]; exact mp))
  have CI := hideD (IS.out g1 cap1 w6 l6.out R6.out)
  clear hb CY IS
  have B6 := hideD hw
  clear hw
  obtain ⟨em, em'⟩ := EMM.out
  go_wp2_with fail
  refine CI.out.mono ?_
  rintro x w7 ⟨⟨gv, capv, rfl, lgv, va⟩, hb⟩
  have hw := beyondD B6.out hb
  have CK := hideD (KE.out g1 cap1 gv capv w7 (fun j hj => kc _ _ hw (R4.out j hj)) va)
  clear hb va CI KE B6 R6 l6
  have B7 := hideD hw
  clear hw
  go_wp2_with fail
  refine CK.out.mono ?_
  rintro x W ⟨rfl, hb⟩
  have hw := beyondD B7.out hb
  have XW := hideD (X4.out.past hw)
  have YW := hideD (Y4.out.past hw)
  have RW : Hid (∀ wr, Below W.heap.size W wr → ∀ k, k < m → wr.cell? ⟨g1, k, none⟩ = some (.int .i32 (c k))) := fun wr hb k hk => by
    have := kc _ _ hb (kc _ _ hw (R4.out k (by rw [listOf_len]; exact hk)))
    rw [listOf_get _ _ _ hk, Nat.zero_add] at this
    exact this
  have SW : Hid (∀ wr, Below W.heap.size W wr → ∀ k, k < m → wr.cell? ⟨g2, k, none⟩ = some (.int .i32 (d k))) := fun wr hb k hk => by
    have := kc _ _ hb (kc _ _ hw (S4.out k (by rw [listOf_len]; exact hk)))
    rw [listOf_get _ _ _ hk, Nat.zero_add] at this
    exact this
  have RO : Hid (∀ (w' : World) g (c : Row), (∀ k, k < m → w'.cell? ⟨g, k, none⟩ = some (.int .i32 (c k))) → RowAt w' g 0 (listOf c m)) := fun w' g c h k hk => by
    rw [listOf_len] at hk
    rw [Nat.zero_add, h k hk, listOf_get _ _ _ hk]
  have BW := hideD (beyondD B4.out hw)
  clear hb hw CK B7 B4 X4 Y4 R4 S4
  go_wp2_with fail
  clear em em' EMM
  go_loopw [17] (fun s wr => ∃ (I : Nat), I ≤ N + 1 ∧ s = .int .i64 I ∧ Hid (Below W.heap.size W wr)) (fun s _ => N + 1 - (intOf s).toNat)
  case atStart => exact ⟨0, by omega, rfl, Below.refl _ _⟩
  case round =>
    obtain ⟨I, hI, rfl, BI⟩ := hrel
    by_cases ci : I ≤ N
    · have i1 : (I : Int) ≤ (N : Int) := by omega
      go_wp2_with fail
      go_loopw [18] (fun s wr => ∃ (J : Nat), J ≤ N + 1 ∧ s = .int .i64 J ∧ Hid (Below W.heap.size W wr)) (fun s _ => N + 1 - (intOf s).toNat)
      case atStart => exact ⟨0, by omega, rfl, BI⟩
      case round =>
        obtain ⟨J, hJ, rfl, BJ⟩ := hrel
        by_cases cj : J ≤ N
        · have j1 : (J : Int) ≤ (N : Int) := by omega
          clear BI
          go_wp2_with fail
          go_loopw [19] (fun s wr => ∃ (K : Nat), K ≤ N + 1 ∧ s = .int .i64 K ∧ Hid (Below W.heap.size W wr)) (fun s _ => N + 1 - (intOf s).toNat)
          case atStart => exact ⟨0, by omega, rfl, BJ⟩
          case round =>
            obtain ⟨K, hK, rfl, BK⟩ := hrel
            clear BJ
            by_cases ck : K ≤ N
            · have k1 : (K : Int) ≤ (N : Int) := by omega
              have lt1 := LT.out I K ci ck
              have lt2 := LT.out K J ck cj
              have lt3 := LT.out I J ci cj
              have a1 := RW.out wr BK.out _ lt1
              have a2 := RW.out wr BK.out _ lt2
              have RI : Hid (∀ w', Below wr.heap.size wr w' → w'.cell? ⟨g1, I * (N + 1) + J, none⟩ = some (.int .i32 (c (I * (N + 1) + J)))) := fun w' hb => RW.out w' (beyondD BK.out hb) _ lt3
              have AGX := hideD (AG.out I J K ci cj ck)
              obtain ⟨x0, x1⟩ := RC.out (I * (N + 1) + K)
              obtain ⟨y0, y1⟩ := RC.out (K * (N + 1) + J)
              have AD : Hid (∀ w', Calls Try.prog 14 #[.int .i32 (c (I * (N + 1) + K)), .int .i32 (c (K * (N + 1) + J))] w' fun e w'' => e = .returned (.tuple #[.int .i32 (sumB [c (I * (N + 1) + K), c (K * (N + 1) + J)]), .int .i64 (sumE [c (I * (N + 1) + K), c (K * (N + 1) + J)])]) ∧ Below w'.heap.size w' w'') := fun w' => radd_any _ _ w' x0 x1 y0 y1
              have WI := hideD (WX.out I ci)
              have WK := hideD (WX.out K ck)
              generalize sumB [c (I * (N + 1) + K), c (K * (N + 1) + J)] = S at *
              generalize sumE [c (I * (N + 1) + K), c (K * (N + 1) + J)] = E at *
              generalize c (I * (N + 1) + K) = x at *
              generalize c (K * (N + 1) + J) = y at *
              generalize c (I * (N + 1) + J) = z at *
              generalize I * (N + 1) = A at *
              generalize K * (N + 1) = P at *
              have e0 : IntKind.i64.wrap ((N : Int) + 1) = (N : Int) + 1 := by rw [IntKind.wrap_i64]; omega
              have e2 : IntKind.i64.wrap ((A : Int) + (K : Int)) = (A : Int) + (K : Int) := by rw [IntKind.wrap_i64]; omega
              have e8 : (0 : Int) ≤ (A : Int) + (K : Int) := by omega
              have e9 : ((A : Int) + (K : Int)).toNat = A + K := by omega
              have e5 : (A : Int) + (K : Int) < (m : Int) := by omega
              have f2 : IntKind.i64.wrap ((P : Int) + (J : Int)) = (P : Int) + (J : Int) := by rw [IntKind.wrap_i64]; omega
              have f8 : (0 : Int) ≤ (P : Int) + (J : Int) := by omega
              have f9 : ((P : Int) + (J : Int)).toNat = P + J := by omega
              have f5 : (P : Int) + (J : Int) < (m : Int) := by omega
              have h2' : IntKind.i64.wrap ((A : Int) + (J : Int)) = (A : Int) + (J : Int) := by rw [IntKind.wrap_i64]; omega
              have h8 : (0 : Int) ≤ (A : Int) + (J : Int) := by omega
              have h9 : ((A : Int) + (J : Int)).toNat = A + J := by omega
              have h5 : (A : Int) + (J : Int) < (m : Int) := by omega
              obtain ⟨eA, eA'⟩ := WI.out
              obtain ⟨eP, eP'⟩ := WK.out
              go_upto_region 21 with (fail)
              go_cut [20, 21] (fun s t w' => s = .int .i32 S ∧ t = .int .i64 E ∧ Below wr.heap.size wr w')
              case first =>
                first
                | go_region_with
                  (go_at_call 14; refine (AD.out _).mono ?_; rintro e w8 ⟨rfl, hb⟩; have h3 := beyondD (w := wr) (by first | with_reducible exact Below.refl _ _ | with_reducible exact Below.drew (Below.refl _ _)) hb; clear hb)
                | fail
                all_goals go_wp2_with fail
                all_goals go_meet
                all_goals exact ⟨rfl, rfl, by assumption⟩
              case rest =>
                obtain ⟨rfl, rfl, hb⟩ := hcut
                have BN := hideD (beyondD BK.out hb)
                have a3 := RI.out _ hb
                clear hb a1 a2 AD RI e2 e8 e9 e5 f2 f8 f9 f5 eP eP'
                by_cases hE : E = 0
                · subst hE
                  have hS : ¬ S < z := fun h => by
                    have := AGX.out
                    simp [h] at this
                  go_wp2_with fail
                  clear eA eA'
                  go_roundw
                  case rel => exact ⟨K + 1, by omega, by go_num, BN⟩
                  case measure => simp [intOf]; omega
                · have hE' : (E == 0) = false := by simpa using hE
                  go_wp2_with fail
                  clear eA eA'
                  go_roundw
                  case rel => exact ⟨K + 1, by omega, by go_num, BN⟩
                  case measure => simp [intOf]; omega
            · go_wp2_with fail
              skip
              have lt3 := LT.out I J ci cj
              have a3 := RW.out wr BK.out _ lt3
              have b3 := SW.out wr BK.out _ lt3
              have WI := hideD (WX.out I ci)
              have BYX : Hid (d (I * (N + 1) + J) < c (I * (N + 1) + J) → ∀ w', Below wr.heap.size wr w' → Calls Try.prog 15 #[.int .i64 N, .slice (some ⟨g1, 0, none⟩) m cap1, .int .i64 I, .int .i64 J, .int .i32 (d (I * (N + 1) + J))] w' fun e w'' => e = .returned (.bool true) ∧ Below w'.heap.size w' w'') := fun h w' hb => BY.out g1 cap1 I J w' ci cj h (RO.out w' g1 c (RW.out w' (beyondD BK.out hb)))
              clear AG LT RC BY SC IN NW EQ RW SW RO XW YW WX
              generalize c (I * (N + 1) + J) = z at *
              generalize d (I * (N + 1) + J) = t at *
              generalize I * (N + 1) = A at *
              have e0 : IntKind.i64.wrap ((N : Int) + 1) = (N : Int) + 1 := by rw [IntKind.wrap_i64]; omega
              have h2' : IntKind.i64.wrap ((A : Int) + (J : Int)) = (A : Int) + (J : Int) := by rw [IntKind.wrap_i64]; omega
              have h8 : (0 : Int) ≤ (A : Int) + (J : Int) := by omega
              have h9 : ((A : Int) + (J : Int)).toNat = A + J := by omega
              have h5 : (A : Int) + (J : Int) < (m : Int) := by omega
              by_cases hlt : t < z
              · have CB := hideD (BYX.out hlt)
                obtain ⟨eA, eA'⟩ := WI.out
                clear BYX WI
                go_upto_region 24 with (fail)
                go_cut [224] (fun s w' => s = .bool false ∧ Below wr.heap.size wr w')
                case first =>
                  go_region_held3 (fun w' => Below wr.heap.size wr w' ∧ w'.cell? ⟨g1, A + J, none⟩ = some (.int .i32 z) ∧ w'.cell? ⟨g2, A + J, none⟩ = some (.int .i32 t))
                    (first | exact ⟨by first | with_reducible assumption | with_reducible exact Below.refl _ _ | with_reducible exact Below.drew (Below.refl _ _), by first | with_reducible assumption | simp [go_sem, *], by first | with_reducible assumption | simp [go_sem, *]⟩ | go_keep)
                    (first | (go_at_call 15; refine (CB.out _ (by first | with_reducible assumption | with_reducible exact Below.refl _ _ | with_reducible exact Below.drew (Below.refl _ _))).mono ?_; rintro e w8 ⟨rfl, hb⟩; have s0 := kc ⟨g1, A + J, none⟩ (.int .i32 z) hb (by first | with_reducible assumption | simp [go_sem, *]); have s2 := kc ⟨g2, A + J, none⟩ (.int .i32 t) hb (by first | with_reducible assumption | simp [go_sem, *]); have h3 := beyondD (w := wr) (by first | with_reducible assumption | with_reducible exact Below.refl _ _ | with_reducible exact Below.drew (Below.refl _ _)) hb; clear hb))
                  all_goals go_wp2_with fail
                  all_goals go_meet
                  all_goals exact ⟨rfl, by assumption⟩
                case rest =>
                  obtain ⟨rfl, hb⟩ := hcut
                  have BN := hideD (beyondD BK.out hb)
                  clear hb eA eA' h2' h8 h9 h5 e0 a3 b3
                  go_wp2_with fail
                  go_roundw
                  case rel => exact ⟨J + 1, by omega, by go_num, BN⟩
                  case measure => simp [intOf]; omega
              · obtain ⟨eA, eA'⟩ := WI.out
                have hq : decide (t < z) = false := by simpa using hlt
                clear BYX WI
                go_wp2_with fail
                go_quiet (fail)
                clear eA eA' h2' h8 h9 h5 e0 a3 b3
                go_wp2_with fail
                go_roundw
                case rel => exact ⟨J + 1, by omega, by go_num, below_drewN BK.out _⟩
                case measure => simp [intOf]; omega
        · go_wp2_with fail
          go_roundw
          case rel => exact ⟨I + 1, by omega, by go_num, BJ⟩
          case measure => simp [intOf]; omega
    · skip
      have FE : Hid (∀ w', Below W.heap.size W w' → Calls Try.prog 9 #[.pointer (some ⟨b, 0, none⟩), .pointer (some ⟨o, 0, none⟩)] w' fun x w'' => x = .returned (.bool (eqUpto c d 81)) ∧ Below w'.heap.size w' w'') := fun w' hb => EQ.out w' b o (XW.out.past hb) (YW.out.past hb)
      have FI : Hid (∀ w', Below W.heap.size W w' → Calls Try.prog 11 #[.pointer (some ⟨b, 0, none⟩), .pointer (some ⟨o, 0, none⟩)] w' fun x w'' => x = .returned (.bool (nless c d m)) ∧ Below w'.heap.size w' w'') := fun w' hb => IN.out w' b o (XW.out.past hb) (YW.out.past hb)
      have FS : Hid (∀ w', Below W.heap.size W w' → Calls Try.prog 10 #[.slice (some ⟨g1, 0, none⟩) m cap1, .slice (some ⟨g2, 0, none⟩) m cap2] w' fun x w'' => x = .returned (.bool (eqUpto c d 81)) ∧ Below w'.heap.size w' w'') := fun w' hb => SC.out w' g1 cap1 g2 cap2 (RO.out w' g1 c (RW.out w' hb)) (RO.out w' g2 d (SW.out w' hb))
      have FN : Hid (∀ w', Below W.heap.size W w' → Calls Try.prog 16 #[.slice (some ⟨g1, 0, none⟩) m cap1, .slice (some ⟨g2, 0, none⟩) m cap2] w' fun x w'' => x = .returned (.bool (nless c d m)) ∧ Below w'.heap.size w' w'') := fun w' hb => NW.out w' g1 cap1 g2 cap2 (RO.out w' g1 c (RW.out w' hb)) (RO.out w' g2 d (SW.out w' hb))
      have hw := BI.out
      clear EQ IN SC NW RW SW RO XW YW AG LT RC BY WX BI lc ld
      generalize eqUpto c d 81 = q1 at *
      generalize nless c d m = q2 at *
      go_wp2_with fail
      refine (live_any _).mono ?_
      rintro x w8 ⟨rfl, hb⟩
      replace hw := beyondD hw hb
      clear hb
      have CC := hideD (FE.out _ hw)
      go_wp2_with fail
      refine CC.out.mono ?_
      rintro x w9 ⟨rfl, hb⟩
      replace hw := beyondD hw hb
      clear hb CC
      have CC := hideD (FS.out _ hw)
      go_wp2_with fail
      refine CC.out.mono ?_
      rintro x w10 ⟨rfl, hb⟩
      replace hw := beyondD hw hb
      clear hb CC
      cases q1
      all_goals
        have CC := hideD (FI.out _ hw)
        go_wp2_with fail
        refine CC.out.mono ?_
        rintro x w11 ⟨rfl, hb⟩
        replace hw := beyondD hw hb
        clear hb CC
        have CC := hideD (FN.out _ hw)
        go_wp2_with fail
        refine CC.out.mono ?_
        rintro x w12 ⟨rfl, hb⟩
        replace hw := beyondD hw hb
        clear hb CC
        go_wp2_with fail
        go_ret
        exact ⟨by first | rfl | simp, BW.out.trans (hw.mono BW.out.size)⟩
end Go.Proofs.Ytmnckhchpbdfjaa
