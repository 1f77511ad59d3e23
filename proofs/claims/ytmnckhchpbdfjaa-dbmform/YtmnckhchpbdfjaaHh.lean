/-
  The walk of the statement DbmForm where a zone is empty.
-/
import Derived.Test.YtmnckhchpbdfjaaHg
namespace Go.Proofs.Ytmnckhchpbdfjaa
open Go.RowKit
set_option linter.unusedVariables false
set_option maxRecDepth 100000
theorem empty_eq {n m : Nat} {c d : Row} (hc : Made n c) (hd : Made n d) (h : (decide (c 0 < 1) || decide (d 0 < 1)) = true) : eqUpto c d 81 = (decide (c 0 < 1) && decide (d 0 < 1)) := by
  have nz : ∀ {c d : Row}, c 0 = 1 → (∀ j, d j = 0) → eqUpto c d 81 = false ∧ eqUpto d c 81 = false := fun {c d} a b => by
    constructor
    all_goals
      cases e : eqUpto _ _ 81
      · rfl
      · simp only [eqUpto, List.all_eq_true, List.mem_range, beq_iff_eq] at e
        have e0 := e 0 (by omega)
        have b0 := b 0
        omega
  rcases hc.head with a | a
  · rcases hd.head with b | b
    · rw [a, b] at h
      simp at h
    · rw [(nz a b).1, a, b 0]
      rfl
  · rcases hd.head with b | b
    · rw [(nz b a).2, b, a 0]
      rfl
    · rw [a 0, b 0]
      simp [eqUpto, a, b]
theorem empty_inc {n m : Nat} {c d : Row} (hc : Made n c) (hd : Made n d) (hm : 0 < m) (h : decide (c 0 < 1) = true) (h' : decide (d 0 < 1) = false) : nless c d m = false := by
  cases e : nless c d m
  · rfl
  · have := (nless_iff _ _ _).1 e 0 hm
    simp only [decide_eq_true_eq, decide_eq_false_iff_not] at h h'
    omega
set_option maxHeartbeats 4000000 in
theorem form_empty (N m : Nat) (v v' : Value) (c d : Row) (w : World) (N8 : N ≤ 8) (hm : m = (N + 1) * (N + 1)) (hc : Made N c) (hd : Made N d) (hq : (decide (c 0 < 1) || decide (d 0 < 1)) = true)
    (h1 : ∀ w', Below w.heap.size w w' → Calls Try.prog 4 #[.int .i64 N, v] w' fun x w'' => Below w'.heap.size w' w'' ∧ ZoneOut w'' w'.heap.size N x (some c))
    (h2 : ∀ w', Below w.heap.size w w' → Calls Try.prog 4 #[.int .i64 N, v'] w' fun x w'' => Below w'.heap.size w' w'' ∧ ZoneOut w'' w'.heap.size N x (some d)) :
    Calls Try.prog 3 #[.int .i64 N, v, v'] w fun x w' => x = .returned (.bool true) ∧ Below w.heap.size w w' := by
  have m81 : m ≤ 81 := by rw [hm]; exact Nat.mul_le_mul (show N + 1 ≤ 9 by omega) (show N + 1 ≤ 9 by omega)
  have mp : 0 < m := by rw [hm]; exact Nat.mul_pos (by omega) (by omega)
  have CE : Hid (∀ w b e, ZoneAt w b N e → Calls Try.prog 7 #[.pointer (some ⟨b, 0, none⟩)] w fun x w' => (∃ v, x = .returned v ∧ OwnRow w' w.heap.size v (listOf e m)) ∧ Below w.heap.size w w') := fun w b e h => by
    have := cells_any b N e w h N8
    rw [← hm] at this
    exact this
  have EM : Hid (∀ w' b e, ZoneAt w' b N e → Calls Try.prog 8 #[.pointer (some ⟨b, 0, none⟩)] w' fun x w'' => x = .returned (.bool (decide (e 0 < 1))) ∧ Below w'.heap.size w' w'') := fun w' b e h => empty_any b N e w' N8 h
  have EQ : Hid (∀ w' b o, ZoneAt w' b N c → ZoneAt w' o N d → Calls Try.prog 9 #[.pointer (some ⟨b, 0, none⟩), .pointer (some ⟨o, 0, none⟩)] w' fun x w'' => x = .returned (.bool (decide (c 0 < 1) && decide (d 0 < 1))) ∧ Below w'.heap.size w' w'') := fun w' b o z1 z2 => by
    have := equal_any b o N c d w' z1 z2
    rw [empty_eq (m := m) hc hd hq] at this
    exact this.mono fun x w'' ⟨hx, k, hw⟩ => ⟨hx, by rw [hw]; exact below_draw _ _⟩
  have SC : Hid (∀ w' g1 c1 g2 c2, RowAt w' g1 0 (listOf c m) → RowAt w' g2 0 (listOf d m) → Calls Try.prog 10 #[.slice (some ⟨g1, 0, none⟩) m c1, .slice (some ⟨g2, 0, none⟩) m c2] w' fun x w'' => x = .returned (.bool (decide (c 0 < 1) && decide (d 0 < 1))) ∧ Below w'.heap.size w' w'') := fun w' g1 c1 g2 c2 r1 r2 => by
    have := sameCells_same g1 g2 c1 c2 m _ _ w' r1 r2 (listOf_len _ _) (listOf_len _ _) m81
    rw [← equal_same hc hd hm m81, empty_eq (m := m) hc hd hq] at this
    exact this.mono fun x w'' ⟨hx, k, hw⟩ => ⟨hx, by rw [hw]; exact below_draw _ _⟩
  have IN : Hid (∀ w' b o, ZoneAt w' b N c → ZoneAt w' o N d → Calls Try.prog 11 #[.pointer (some ⟨b, 0, none⟩), .pointer (some ⟨o, 0, none⟩)] w' fun x w'' => x = .returned (.bool (decide (d 0 < 1))) ∧ Below w'.heap.size w' w'') := fun w' b o z1 z2 => by
    cases q2 : decide (d 0 < 1)
    · have := includes_some b o N c d w' z1 z2 N8 q2
      rw [q2, Bool.or_false] at hq
      rw [← hm, empty_inc hc hd mp hq q2] at this
      exact this
    · exact includes_empty b o N c d w' z1 z2 N8 q2
  have lc := listOf_len c m
  have ld := listOf_len d m
  have H1 := hideD (h1 w (Below.refl _ _))
  have H2 := hideD h2
  have HQ := hideD hq
  clear h1 h2 hq hc hd hm
  have m1 : (m : Int) ≤ 81 := by omega
  go_enter Try.func3, Try.ntmps3
  go_wp2_with fail
  refine H1.out.mono ?_
  rintro x w1 ⟨hb1, b, lb, rfl, z1⟩
  have C2 := hideD (H2.out _ hb1)
  have Z1 := hideD z1
  have B1 := hideD hb1
  clear hb1 z1 H1 H2
  go_wp2_with fail
  refine C2.out.mono ?_
  rintro x w2 ⟨hb2, o, lo, rfl, z2⟩
  have X2 := hideD (Z1.out.past hb2)
  have Y2 := hideD z2
  have B2 := hideD (beyondD B1.out hb2)
  have C3 := hideD (CE.out _ _ _ X2.out)
  clear hb2 z2 C2 Z1 B1
  go_wp2_with fail
  refine C3.out.mono ?_
  rintro x w3 ⟨⟨v1, rfl, g1, cap1, rfl, lg1, l1, row1⟩, hb3⟩
  rw [lc]
  have X3 := hideD (X2.out.past hb3)
  have Y3 := hideD (Y2.out.past hb3)
  have R3 := hideD row1
  have B3 := hideD (beyondD B2.out hb3)
  have C4 := hideD (CE.out _ _ _ Y3.out)
  clear hb3 row1 C3 X2 Y2 B2 CE
  go_wp2_with fail
  refine C4.out.mono ?_
  rintro x w4 ⟨⟨v2, rfl, g2, cap2, rfl, lg2, l2, row2⟩, hb4⟩
  rw [ld]
  have X4 := hideD (X3.out.past hb4)
  have Y4 := hideD (Y3.out.past hb4)
  have R4 : Hid (RowAt w4 g1 0 (listOf c m)) := fun j hj => kc _ _ hb4 (R3.out j hj)
  have S4 := hideD row2
  have B4 := hideD (beyondD B3.out hb4)
  clear hb4 row2 C4 X3 Y3 B3 R3
  have FX : Hid (∀ w', Below w4.heap.size w4 w' → Calls Try.prog 8 #[.pointer (some ⟨b, 0, none⟩)] w' fun x w'' => x = .returned (.bool (decide (c 0 < 1))) ∧ Below w'.heap.size w' w'') := fun w' hb => EM.out w' b c (X4.out.past hb)
  have FY : Hid (∀ w', Below w4.heap.size w4 w' → Calls Try.prog 8 #[.pointer (some ⟨o, 0, none⟩)] w' fun x w'' => x = .returned (.bool (decide (d 0 < 1))) ∧ Below w'.heap.size w' w'') := fun w' hb => EM.out w' o d (Y4.out.past hb)
  have FE : Hid (∀ w', Below w4.heap.size w4 w' → Calls Try.prog 9 #[.pointer (some ⟨b, 0, none⟩), .pointer (some ⟨o, 0, none⟩)] w' fun x w'' => x = .returned (.bool (decide (c 0 < 1) && decide (d 0 < 1))) ∧ Below w'.heap.size w' w'') := fun w' hb => EQ.out w' b o (X4.out.past hb) (Y4.out.past hb)
  have FI : Hid (∀ w', Below w4.heap.size w4 w' → Calls Try.prog 11 #[.pointer (some ⟨b, 0, none⟩), .pointer (some ⟨o, 0, none⟩)] w' fun x w'' => x = .returned (.bool (decide (d 0 < 1))) ∧ Below w'.heap.size w' w'') := fun w' hb => IN.out w' b o (X4.out.past hb) (Y4.out.past hb)
  have FS : Hid (∀ w', Below w4.heap.size w4 w' → Calls Try.prog 10 #[.slice (some ⟨g1, 0, none⟩) m cap1, .slice (some ⟨g2, 0, none⟩) m cap2] w' fun x w'' => x = .returned (.bool (decide (c 0 < 1) && decide (d 0 < 1))) ∧ Below w'.heap.size w' w'') := fun w' hb => SC.out w' g1 cap1 g2 cap2 (fun j hj => kc _ _ hb (R4.out j hj)) (fun j hj => kc _ _ hb (S4.out j hj))
  clear EM EQ SC IN X4 Y4 R4 S4 lc ld
  generalize decide (c 0 < 1) = q1 at *
  generalize decide (d 0 < 1) = q2 at *
  have CX := hideD (FX.out w4 (Below.refl _ _))
  have hw := Below.refl w4.heap.size w4
  clear CX
  cases q1
  · have e2 : q2 = true := HQ.out
    subst e2
    clear HQ
    simp only [Bool.false_and] at FE FS
    have CC := hideD (FX.out _ hw)
    go_wp2_with fail
    refine CC.out.mono ?_
    rintro x w5 ⟨rfl, hb⟩
    replace hw := beyondD hw hb
    clear hb CC
    have CC := hideD (FY.out _ hw)
    go_wp2_with fail
    refine CC.out.mono ?_
    rintro x w6 ⟨rfl, hb⟩
    replace hw := beyondD hw hb
    clear hb CC
    go_wp2_with fail
    refine (live_any _).mono ?_
    rintro x w7 ⟨rfl, hb⟩
    replace hw := beyondD hw hb
    clear hb
    have CC := hideD (FE.out _ hw)
    go_wp2_with fail
    refine CC.out.mono ?_
    rintro x w8 ⟨rfl, hb⟩
    replace hw := beyondD hw hb
    clear hb CC
    have CC := hideD (FX.out _ hw)
    go_wp2_with fail
    refine CC.out.mono ?_
    rintro x w9 ⟨rfl, hb⟩
    replace hw := beyondD hw hb
    clear hb CC
    have CC := hideD (FS.out _ hw)
    go_wp2_with fail
    refine CC.out.mono ?_
    rintro x w10 ⟨rfl, hb⟩
    replace hw := beyondD hw hb
    clear hb CC
    have CC := hideD (FE.out _ hw)
    go_wp2_with fail
    refine CC.out.mono ?_
    rintro x w11 ⟨rfl, hb⟩
    replace hw := beyondD hw hb
    clear hb CC
    have CC := hideD (FI.out _ hw)
    go_wp2_with fail
    refine CC.out.mono ?_
    rintro x w12 ⟨rfl, hb⟩
    replace hw := beyondD hw hb
    clear hb CC
    have CC := hideD (FY.out _ hw)
    go_wp2_with fail
    refine CC.out.mono ?_
    rintro x w13 ⟨rfl, hb⟩
    replace hw := beyondD hw hb
    clear hb CC
    go_wp2_with fail
    go_ret
    exact ⟨rfl, B4.out.trans (hw.mono B4.out.size)⟩
  · cases q2
    all_goals
      simp only [Bool.true_and] at FE FS
      have CC := hideD (FX.out _ hw)
      go_wp2_with fail
      refine CC.out.mono ?_
      rintro x w14 ⟨rfl, hb⟩
      replace hw := beyondD hw hb
      clear hb CC
      go_wp2_with fail
      refine (live_any _).mono ?_
      rintro x w15 ⟨rfl, hb⟩
      replace hw := beyondD hw hb
      clear hb
      have CC := hideD (FE.out _ hw)
      go_wp2_with fail
      refine CC.out.mono ?_
      rintro x w16 ⟨rfl, hb⟩
      replace hw := beyondD hw hb
      clear hb CC
      have CC := hideD (FX.out _ hw)
      go_wp2_with fail
      refine CC.out.mono ?_
      rintro x w17 ⟨rfl, hb⟩
      replace hw := beyondD hw hb
      clear hb CC
      have CC := hideD (FY.out _ hw)
      go_wp2_with fail
      refine CC.out.mono ?_
      rintro x w18 ⟨rfl, hb⟩
      replace hw := beyondD hw hb
      clear hb CC
      have CC := hideD (FS.out _ hw)
      go_wp2_with fail
      refine CC.out.mono ?_
      rintro x w19 ⟨rfl, hb⟩
      replace hw := beyondD hw hb
      clear hb CC
      have CC := hideD (FE.out _ hw)
      go_wp2_with fail
      refine CC.out.mono ?_
      rintro x w20 ⟨rfl, hb⟩
      replace hw := beyondD hw hb
      clear hb CC
      have CC := hideD (FI.out _ hw)
      go_wp2_with fail
      refine CC.out.mono ?_
      rintro x w21 ⟨rfl, hb⟩
      replace hw := beyondD hw hb
      clear hb CC
      have CC := hideD (FY.out _ hw)
      go_wp2_with fail
      refine CC.out.mono ?_
      rintro x w22 ⟨rfl, hb⟩
      replace hw := beyondD hw hb
      clear hb CC
      go_wp2_with fail
      go_ret
      exact ⟨rfl, B4.out.trans (hw.mono B4.out.size)⟩
end Go.Proofs.Ytmnckhchpbdfjaa
