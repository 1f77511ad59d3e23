/-
  The walk of ExprTurns.
-/
import Derived.Test.YtmnhbokiibaopabDoorPo
namespace Go.Proofs.YtmnhbokiibaopabDoor
open Go.RowKit
set_option linter.unusedVariables false
namespace exprTurns
set_option maxRecDepth 100000 in
set_option maxHeartbeats 4000000 in
theorem main (ab ao ac na bb bo bc nb nv : Nat) (a b : List Node) (vd : Option Addr) (vc : Nat) (vs : List Int) (x y : Int) (w : World)
    (HNa : Hid (a.length = na)) (HNb : Hid (b.length = nb)) (hna : na + nb + 1 ≤ 64) (hna2 : na + 2 ≤ 64) (HIa : Hid (∀ n ∈ a, n.1 < 256)) (HIb : Hid (∀ n ∈ b, n.1 < 256))
    (HA : Hid (RowV w (some ⟨ab, ao, none⟩) (a.flatMap NodeC))) (HB : Hid (RowV w (some ⟨bb, bo, none⟩) (b.flatMap NodeC)))
    (VA : Hid (∀ W, Below w.heap.size w W → Calls Tryd.prog 8 #[.slice (some ⟨ab, ao, none⟩) na ac, .slice vd nv vc] W fun e w' => e = .returned (.tuple #[.int .i64 x, .int .i64 0]) ∧ Below W.heap.size W w'))
    (VB : Hid (∀ W, Below w.heap.size w W → Calls Tryd.prog 8 #[.slice (some ⟨bb, bo, none⟩) nb bc, .slice vd nv vc] W fun e w' => e = .returned (.tuple #[.int .i64 y, .int .i64 0]) ∧ Below W.heap.size W w'))
    (VN : Hid (∀ W ad cap (l : List Node) n, l.length = n → (∀ x ∈ l, x.1 < 256) → Below w.heap.size w W → RowV W ad (l.flatMap NodeC) → Calls Tryd.prog 8 #[.slice ad n cap, .slice vd nv vc] W fun e w' => e = .returned (.tuple #[.int .i64 (worthT 1 vs l).1, .int .i64 (worthT 1 vs l).2]) ∧ Below W.heap.size W w'))
    (HN : Hid (∀ W ad cap (l : List Node) n, l.length = n → (∀ x ∈ l, x.1 < 256) → Below w.heap.size w W → RowV W ad (l.flatMap NodeC) → Calls Tryd.prog 5 #[.slice ad n cap, .slice vd nv vc] W fun e w' => e = .returned (.tuple #[.bool (holdsT vs l).1, .int .i64 (holdsT vs l).2]) ∧ Below W.heap.size W w'))
    (TA : Hid (∀ o, o = 4 ∨ o = 6 → worthT 1 vs ((o, 0) :: (a ++ b)) = worthT 1 vs ((o, 0) :: (b ++ a)))) (TN : Hid (worthT 1 vs ((3, 0) :: (3, 0) :: a) = if x = -9223372036854775808 then (0, 20) else (x, 0))) (TE : Hid (holdsT vs ((10, 0) :: (a ++ b)) = (x == y, 0)))
    (LV : Hid (∀ W, Below w.heap.size w W → Calls Tryd.prog 6 #[] W fun e w' => e = .returned (.bool true) ∧ Below W.heap.size W w')) :
    Calls Tryd.prog 4 #[.slice (some ⟨ab, ao, none⟩) na ac, .slice (some ⟨bb, bo, none⟩) nb bc, .slice vd nv vc] w fun e w' => e = .returned (.bool true) ∧ Below w.heap.size w w' := by
  have e1 : IntKind.i64.wrap ((na : Int) + (nb : Int)) = (na : Int) + (nb : Int) := by rw [IntKind.wrap_i64]; omega
  have e2 : IntKind.i64.wrap ((na : Int) + (nb : Int) + 1) = (na : Int) + (nb : Int) + 1 := by rw [IntKind.wrap_i64]; omega
  have e3 : IntKind.i64.wrap ((na : Int) + 2) = (na : Int) + 2 := by rw [IntKind.wrap_i64]; omega
  have d3 : ¬ (64 : Int) < (na : Int) + (nb : Int) + 1 := by omega
  have d4 : ¬ (64 : Int) < (na : Int) + 2 := by omega
  have M1 := hideR hna
  have M2 := hideR hna2
  clear hna hna2
  go_enter Tryd.func4, Tryd.ntmps4
  go_wp2_with fail
  refine (VA.out _ (Below.refl _ _)).mono ?_
  rintro e w1 ⟨rfl, hb⟩
  have B1 := hideR hb
  clear hb VA
  go_wp2_with fail
  refine (VB.out _ B1.out).mono ?_
  rintro e w2 ⟨rfl, hb⟩
  have B2 := hideR (beyond B1.out hb)
  clear hb B1 VB
  go_wp2_with fail
  have o0 : Hid ((w2.alloc (.cells #[.int .u8 4, .int .u8 6] 33)).cell? ⟨w2.heap.size, 0, none⟩ = some (.int .u8 4)) := by
    show _ = _
    simp [go_sem]
  have o1 : Hid ((w2.alloc (.cells #[.int .u8 4, .int .u8 6] 33)).cell? ⟨w2.heap.size, 1, none⟩ = some (.int .u8 6)) := by
    show _ = _
    simp [go_sem]
  have B3 := hideR (beyond B2.out (single w2 (.cells #[.int .u8 4, .int .u8 6] 33)))
  clear B2 e1 e2 e3 d3 d4
  generalize w2.alloc (.cells #[.int .u8 4, .int .u8 6] 33) = W0 at *
  generalize w2.heap.size = ob at *
  go_loopw [12] (fun i wr => ∃ (j : Nat), j ≤ 2 ∧ i = .int .i64 j ∧ Hid (Below W0.heap.size W0 wr)) (fun i _ => 2 - (intOf i).toNat)
  case atStart => exact ⟨0, by omega, rfl, Below.refl _ _⟩
  case round =>
    obtain ⟨j, hj, rfl, E⟩ := hrel
    by_cases cj : j < 2
    · have i1 : (j : Int) < 2 := by omega
      have e1 : IntKind.i64.wrap ((j : Int) + 1) = (j : Int) + 1 := by rw [IntKind.wrap_i64]; omega
      obtain ⟨o, HO, hc⟩ : ∃ o : Nat, Hid (o = 4 ∨ o = 6) ∧ wr.cell? ⟨ob, j, none⟩ = some (.int .u8 (o : Int)) := by
        have : j = 0 ∨ j = 1 := by omega
        rcases this with rfl | rfl
        · exact ⟨4, .inl rfl, kc _ _ E.out o0.out⟩
        · exact ⟨6, .inr rfl, kc _ _ E.out o1.out⟩
      have lt : ob < wr.heap.size := World.block_lt_of_cell? _ _ hc
      have ne : ¬ ob = wr.heap.size := by omega
      have BW := hideR (beyond B3.out E.out)
      have A0 := hideR (HA.out.later BW.out)
      have A1 := hideR (HB.out.later BW.out)
      have C1 := hideR (Below.refl wr.heap.size wr)
      have L1 := hideR (World.ownsRow_lit (base := wr.heap.size) (e := 36) (size := 2) wr #[.int .u8 (o : Int), .int .i64 0] 1 (Nat.le_refl _) (by decide) rfl)
      have S1 := hideR (single wr (.cells #[.int .u8 (o : Int), .int .i64 0] 36))
      go_upto_region 10 with (at_builtin; first
        | (refine app_nodes rfl _ _ rfl wr.heap.size _ _ _ rfl L1.out ab ao na ac a rfl HNa.out ((A0.out.later C1.out).later S1.out) (by have := M1.out; have := M2.out; omega) (by simp) ?_; intro u1 x1 hw hb; have O1 := hideR hw; have D1 := hideR (S1.out.trans hb); clear hw hb)
        | (refine app_nodes rfl _ _ rfl wr.heap.size _ _ _ rfl O1.out bb bo nb bc b rfl HNb.out ((A1.out.later C1.out).later D1.out) (by have := M1.out; omega) D1.out.size ?_; intro v1 y1 hw hb; have P1 := hideR hw; have F1 := hideR (D1.out.trans hb); clear hw hb))
      obtain ⟨ad1, cap1, rfl, hR1, _⟩ := own_rowV P1.out
      have R1 : Hid (RowV y1 ad1 (((o, 0) :: (a ++ b)).flatMap NodeC)) := by
        have e : ((o, 0) :: (a ++ b)).flatMap NodeC = [.int .u8 (o : Int), .int .i64 0] ++ a.flatMap NodeC ++ b.flatMap NodeC := by simp
        rw [e]
        exact hR1
      clear hR1 P1 O1 L1 D1 S1
      have hc1 := kc _ _ F1.out hc
      have lt1 : ob < y1.heap.size := World.block_lt_of_cell? _ _ hc1
      have ne1 : ¬ ob = y1.heap.size := by omega
      have C2 := hideR F1.out
      have L2 := hideR (World.ownsRow_lit (base := y1.heap.size) (e := 36) (size := 2) y1 #[.int .u8 (o : Int), .int .i64 0] 1 (Nat.le_refl _) (by decide) rfl)
      have S2 := hideR (single y1 (.cells #[.int .u8 (o : Int), .int .i64 0] 36))
      go_upto_region 11 with (at_builtin; first
        | (refine app_nodes rfl _ _ rfl y1.heap.size _ _ _ rfl L2.out bb bo nb bc b rfl HNb.out ((A1.out.later C2.out).later S2.out) (by have := M1.out; have := M2.out; omega) (by simp) ?_; intro u2 x2 hw hb; have O2 := hideR hw; have D2 := hideR (S2.out.trans hb); clear hw hb)
        | (refine app_nodes rfl _ _ rfl y1.heap.size _ _ _ rfl O2.out ab ao na ac a rfl HNa.out ((A0.out.later C2.out).later D2.out) (by have := M1.out; omega) D2.out.size ?_; intro v2 y2 hw hb; have P2 := hideR hw; have F2 := hideR (D2.out.trans hb); clear hw hb))
      obtain ⟨ad2, cap2, rfl, hR2, _⟩ := own_rowV P2.out
      have R2 : Hid (RowV y2 ad2 (((o, 0) :: (b ++ a)).flatMap NodeC)) := by
        have e : ((o, 0) :: (b ++ a)).flatMap NodeC = [.int .u8 (o : Int), .int .i64 0] ++ b.flatMap NodeC ++ a.flatMap NodeC := by simp
        rw [e]
        exact hR2
      clear hR2 P2 O2 L2 D2 S2
      have R3 := hideR (R1.out.later F2.out)
      have BY := hideR (beyond BW.out (beyond F1.out F2.out))
      have Vone := hideR (VN.out y2 ad1 cap1 ((o, 0) :: (a ++ b)) (1 + na + nb) (by have := HNa.out; have := HNb.out; simp; omega) (by
        intro x hx
        rcases List.mem_cons.1 hx with rfl | hx
        · rcases HO.out with rfl | rfl <;> decide
        · rcases List.mem_append.1 hx with h | h
          · exact HIa.out x h
          · exact HIb.out x h) BY.out R3.out)
      have Vtwo : Hid (∀ W, Below y2.heap.size y2 W → Calls Tryd.prog 8 #[.slice ad2 (1 + nb + na) cap2, .slice vd nv vc] W fun e w' => e = .returned (.tuple #[.int .i64 (worthT 1 vs ((o, 0) :: (a ++ b))).1, .int .i64 (worthT 1 vs ((o, 0) :: (a ++ b))).2]) ∧ Below W.heap.size W w') := by
        intro W hb
        have := VN.out W ad2 cap2 ((o, 0) :: (b ++ a)) (1 + nb + na) (by have := HNa.out; have := HNb.out; simp; omega) (by
          intro x hx
          rcases List.mem_cons.1 hx with rfl | hx
          · rcases HO.out with rfl | rfl <;> decide
          · rcases List.mem_append.1 hx with h | h
            · exact HIb.out x h
            · exact HIa.out x h) (beyond BY.out hb) (R2.out.later hb)
        rw [← TA.out o HO.out] at this
        exact this
      have BX := hideR (beyond F1.out F2.out)
      clear R1 R2 R3 F1 F2 C1 C2 hc hc1 lt lt1 ne ne1 A0 A1 BY HO
      generalize worthT 1 vs ((o, 0) :: (a ++ b)) = RR at *
      generalize 1 + na + nb = n1 at *
      generalize 1 + nb + na = n2 at *
      obtain ⟨p, g⟩ := RR
      go_wp2_with fail
      refine Vone.out.mono ?_
      rintro e z1 ⟨rfl, hb⟩
      have Z1 := hideR hb
      clear hb Vone
      go_wp2_with fail
      refine (Vtwo.out _ Z1.out).mono ?_
      rintro e z2 ⟨rfl, hb⟩
      have Z2 := hideR (beyond E.out (beyond BX.out (beyond Z1.out hb)))
      clear hb Vtwo Z1 E
      go_wp2_with fail
      go_roundw
      case rel => exact ⟨j + 1, by omega, by go_num, Z2.out⟩
      case measure => first | (simp [intOf]; done) | (simp [intOf]; omega)
    · obtain rfl : j = 2 := by omega
      have BW := hideR (beyond B3.out E.out)
      have A0 := hideR (HA.out.later BW.out)
      have A1 := hideR (HB.out.later BW.out)
      have C3 := hideR (Below.refl wr.heap.size wr)
      clear E B3 o0 o1 TA hj cj
      have L3 := hideR (World.ownsRow_lit (base := wr.heap.size) (e := 36) (size := 2) wr #[.int .u8 3, .int .i64 0, .int .u8 3, .int .i64 0] 2 (Nat.le_refl _) (by decide) rfl)
      have S3 := hideR (single wr (.cells #[.int .u8 3, .int .i64 0, .int .u8 3, .int .i64 0] 36))
      go_wp2_with (at_builtin; first
        | (refine app_nodes rfl _ _ rfl wr.heap.size _ _ _ rfl L3.out ab ao na ac a rfl HNa.out ((A0.out.later C3.out).later S3.out) (by have := M1.out; have := M2.out; omega) (by simp) ?_; intro u3 x3 hw hb; have O3 := hideR hw; have D3 := hideR (S3.out.trans hb); clear hw hb))
      obtain ⟨ad3, cap3, rfl, hR3, _⟩ := own_rowV O3.out
      have R3 : Hid (RowV x3 ad3 (((3, 0) :: (3, 0) :: a).flatMap NodeC)) := by
        have e : ((3, 0) :: (3, 0) :: a).flatMap NodeC = [.int .u8 3, .int .i64 0, .int .u8 3, .int .i64 0] ++ a.flatMap NodeC := by simp
        rw [e]
        exact hR3
      clear hR3 O3 L3 S3
      refine (VN.out x3 ad3 cap3 ((3, 0) :: (3, 0) :: a) (2 + na) (by have := HNa.out; simp; omega) (by
        intro x hx
        rcases List.mem_cons.1 hx with rfl | hx
        · decide
        rcases List.mem_cons.1 hx with rfl | hx
        · decide
        · exact HIa.out x hx) (beyond BW.out D3.out) R3.out).mono ?_
      rintro e z1 ⟨rfl, hb⟩
      have Z1 := hideR (beyond D3.out hb)
      clear hb R3 D3 VN
      rw [TN.out]
      generalize hq : (if x = -9223372036854775808 then ((0 : Int), (20 : Int)) else (x, 0)) = qq at *
      have HQ := hideR hq
      clear hq TN
      obtain ⟨n9, g9⟩ := qq
      have C4 := hideR Z1.out
      have L4 := hideR (World.ownsRow_lit (base := z1.heap.size) (e := 36) (size := 2) z1 #[.int .u8 10, .int .i64 0] 1 (Nat.le_refl _) (by decide) rfl)
      have S4 := hideR (single z1 (.cells #[.int .u8 10, .int .i64 0] 36))
      go_wp2_with (at_builtin; first
        | (refine app_nodes rfl _ _ rfl z1.heap.size _ _ _ rfl L4.out ab ao na ac a rfl HNa.out ((A0.out.later C4.out).later S4.out) (by have := M1.out; have := M2.out; omega) (by simp) ?_; intro u4 x4 hw hb; have O4 := hideR hw; have D4 := hideR (S4.out.trans hb); clear hw hb)
        | (refine app_nodes rfl _ _ rfl z1.heap.size _ _ _ rfl O4.out bb bo nb bc b rfl HNb.out ((A1.out.later C4.out).later D4.out) (by have := M1.out; omega) D4.out.size ?_; intro v4 y4 hw hb; have P4 := hideR hw; have F4 := hideR (D4.out.trans hb); clear hw hb))
      obtain ⟨ad4, cap4, rfl, hR4, _⟩ := own_rowV P4.out
      have R4 : Hid (RowV y4 ad4 (((10, 0) :: (a ++ b)).flatMap NodeC)) := by
        have e : ((10, 0) :: (a ++ b)).flatMap NodeC = [.int .u8 (10 : Int), .int .i64 0] ++ a.flatMap NodeC ++ b.flatMap NodeC := by simp
        rw [e]
        exact hR4
      clear hR4 P4 O4 L4 D4 S4
      refine (HN.out y4 ad4 cap4 ((10, 0) :: (a ++ b)) (1 + na + nb) (by have := HNa.out; have := HNb.out; simp; omega) (by
        intro x hx
        rcases List.mem_cons.1 hx with rfl | hx
        · decide
        · rcases List.mem_append.1 hx with h | h
          · exact HIa.out x h
          · exact HIb.out x h) (beyond BW.out (beyond Z1.out F4.out)) R4.out).mono ?_
      rintro e z2 ⟨rfl, hb⟩
      have Z2 := hideR (beyond BW.out (beyond Z1.out (beyond F4.out hb)))
      clear hb R4 F4 Z1 HN C3 C4 A0 A1
      rw [TE.out]
      clear TE
      generalize 2 + na = n3 at *
      generalize 1 + na + nb = n4 at *
      go_wp2_with fail
      refine (LV.out _ Z2.out).mono ?_
      rintro e z3 ⟨rfl, hb⟩
      have Z3 := hideR (beyond Z2.out hb)
      clear hb LV Z2
      by_cases cm : x = -9223372036854775808
      · have hq := HQ.out
        rw [if_pos cm] at hq
        injection hq with q1 q2
        subst q1 q2
        clear HQ
        by_cases cy : x = y
        · subst cy
          have cb : (x == -9223372036854775808) = true := by simpa using cm
          go_wp2_with fail
          go_ret
          exact ⟨rfl, Z3.out⟩
        · have cb : (x == -9223372036854775808) = true := by simpa using cm
          have cz : (x == y) = false := by simpa using cy
          have cw : ((-9223372036854775808 : Int) == y) = false := by rw [← cm]; exact cz
          rw [cz]
          go_wp2_with fail
          go_ret
          exact ⟨rfl, Z3.out⟩
      · have hq := HQ.out
        rw [if_neg cm] at hq
        injection hq with q1 q2
        subst q1 q2
        clear HQ
        by_cases cy : x = y
        · subst cy
          go_wp2_with fail
          go_ret
          exact ⟨rfl, Z3.out⟩
        · have cz : (x == y) = false := by simpa using cy
          rw [cz]
          go_wp2_with fail
          go_ret
          exact ⟨rfl, Z3.out⟩
set_option maxRecDepth 100000 in
set_option maxHeartbeats 4000000 in
theorem inner (ad : Option Addr) (ac : Nat) (a : List Node) (bd : Option Addr) (bc : Nat) (b : List Node) (vd : Option Addr) (vc : Nat) (vs : List Int) (w : World) (hT : OpsT w) (hP : Pow w) (hA : RowV w ad (a.flatMap NodeC)) (hIa : ∀ n ∈ a, n.1 < 256) (hB : RowV w bd (b.flatMap NodeC)) (hIb : ∀ n ∈ b, n.1 < 256) (hV : RowV w vd (vs.flatMap IntC)) (hvs : ∀ v ∈ vs, inR v) (la : a.length * 16 ≤ 140737488355328) (lb : b.length * 16 ≤ 140737488355328) :
    Calls Tryd.prog 4 #[.slice ad a.length ac, .slice bd b.length bc, .slice vd vs.length vc] w fun e w' => e = .returned (.bool true) ∧ Below w.heap.size w w' := by
  have VA := hideR (value_any ad ac a vd vc vs w hT hA hIa hV hvs)
  have VB : Hid (∀ W, Below w.heap.size w W → Calls Tryd.prog 8 #[.slice bd b.length bc, .slice vd vs.length vc] W fun e w' => e = .returned (.tuple #[.int .i64 (worthT 1 vs b).1, .int .i64 (worthT 1 vs b).2]) ∧ Below W.heap.size W w') := fun W hb => value_any bd bc b vd vc vs W (ops_later hT hb) (hB.later hb) hIb (hV.later hb) hvs
  have LV : Hid (∀ W, Below w.heap.size w W → Calls Tryd.prog 6 #[] W fun e w' => e = .returned (.bool true) ∧ Below W.heap.size W w') := fun W hb => live_any W (ops_later hT hb) (pow_later hP hb)
  have e1 : IntKind.i64.wrap ((a.length : Int) + (b.length : Int)) = (a.length : Int) + (b.length : Int) := by rw [IntKind.wrap_i64]; omega
  have e2 : IntKind.i64.wrap ((a.length : Int) + (b.length : Int) + 1) = (a.length : Int) + (b.length : Int) + 1 := by rw [IntKind.wrap_i64]; omega
  have e3 : IntKind.i64.wrap ((a.length : Int) + 2) = (a.length : Int) + 2 := by rw [IntKind.wrap_i64]; omega
  by_cases c : (worthT 1 vs a).2 = 0 ∧ (worthT 1 vs b).2 = 0 ∧ a.length + b.length + 1 ≤ 64 ∧ a.length + 2 ≤ 64
  · obtain ⟨c1, c2, c3, c4⟩ := c
    obtain ⟨ka, va⟩ := worth_ok c1
    obtain ⟨kb, vb⟩ := worth_ok c2
    have hx : inR (worthT 1 vs a).1 := worth_inR hvs
    have TA : Hid (∀ o, o = 4 ∨ o = 6 → worthT 1 vs ((o, 0) :: (a ++ b)) = worthT 1 vs ((o, 0) :: (b ++ a))) := by
      rintro o (rfl | rfl)
      · exact turn_add ka kb va vb c3
      · exact turn_mul ka kb va vb c3
    have TN := hideR (turn_neg ka va hx c4)
    have TE := hideR (turn_equal ka kb va vb c3)
    have VN : Hid (∀ W ad cap (l : List Node) n, l.length = n → (∀ x ∈ l, x.1 < 256) → Below w.heap.size w W → RowV W ad (l.flatMap NodeC) → Calls Tryd.prog 8 #[.slice ad n cap, .slice vd vs.length vc] W fun e w' => e = .returned (.tuple #[.int .i64 (worthT 1 vs l).1, .int .i64 (worthT 1 vs l).2]) ∧ Below W.heap.size W w') := by
      intro W ad cap l n hl hi hb hr
      subst hl
      exact value_any ad cap l vd vc vs W (ops_later hT hb) hr hi (hV.later hb) hvs
    have HN : Hid (∀ W ad cap (l : List Node) n, l.length = n → (∀ x ∈ l, x.1 < 256) → Below w.heap.size w W → RowV W ad (l.flatMap NodeC) → Calls Tryd.prog 5 #[.slice ad n cap, .slice vd vs.length vc] W fun e w' => e = .returned (.tuple #[.bool (holdsT vs l).1, .int .i64 (holdsT vs l).2]) ∧ Below W.heap.size W w') := by
      intro W ad cap l n hl hi hb hr
      subst hl
      exact holds_any ad cap l vd vc vs W (ops_later hT hb) hr hi (hV.later hb) hvs
    have na : 0 < a.length := by
      match a, ka with
      | _ :: _, _ => simp
    have nb : 0 < b.length := by
      match b, kb with
      | _ :: _, _ => simp
    obtain ⟨ab, ao, rfl, _⟩ := rowV_at (s := 2) (fun _ => rfl) hA (by decide) na
    obtain ⟨bb, bo, rfl, _⟩ := rowV_at (s := 2) (fun _ => rfl) hB (by decide) nb
    have VA2 : Hid (∀ W, Below w.heap.size w W → Calls Tryd.prog 8 #[.slice (some ⟨ab, ao, none⟩) a.length ac, .slice vd vs.length vc] W fun e w' => e = .returned (.tuple #[.int .i64 (worthT 1 vs a).1, .int .i64 0]) ∧ Below W.heap.size W w') := by
      intro W hb
      have := value_any _ ac a vd vc vs W (ops_later hT hb) (hA.later hb) hIa (hV.later hb) hvs
      rwa [c1] at this
    have VB2 : Hid (∀ W, Below w.heap.size w W → Calls Tryd.prog 8 #[.slice (some ⟨bb, bo, none⟩) b.length bc, .slice vd vs.length vc] W fun e w' => e = .returned (.tuple #[.int .i64 (worthT 1 vs b).1, .int .i64 0]) ∧ Below W.heap.size W w') := by
      intro W hb
      have := value_any _ bc b vd vc vs W (ops_later hT hb) (hB.later hb) hIb (hV.later hb) hvs
      rwa [c2] at this
    exact main ab ao ac a.length bb bo bc b.length vs.length a b vd vc vs _ _ w rfl rfl c3 c4 hIa hIb hA hB VA2 VB2 VN HN TA TN TE LV
  · clear hT hP hA hIa hB hIb hV hvs
    have C : Hid (¬ ((worthT 1 vs a).2 = 0 ∧ (worthT 1 vs b).2 = 0 ∧ a.length + b.length + 1 ≤ 64 ∧ a.length + 2 ≤ 64)) := c
    clear c la lb
    generalize worthT 1 vs a = X at *
    generalize worthT 1 vs b = Y at *
    generalize a.length = na at *
    generalize b.length = nb at *
    generalize vs.length = nv at *
    obtain ⟨x, ex⟩ := X
    obtain ⟨y, ey⟩ := Y
    simp only at *
    go_enter Tryd.func4, Tryd.ntmps4
    go_wp2_with fail
    refine VA.out.mono ?_
    rintro e w1 ⟨rfl, hb⟩
    have B1 := hideR hb
    clear hb VA
    go_wp2_with fail
    refine (VB.out _ B1.out).mono ?_
    rintro e w2 ⟨rfl, hb⟩
    have B2 := hideR (beyond B1.out hb)
    clear hb VB B1
    by_cases c1 : ex = 0
    · by_cases c2 : ey = 0
      · by_cases c3 : na + nb + 1 ≤ 64
        · have c4 : ¬ na + 2 ≤ 64 := fun q => C.out ⟨c1, c2, c3, q⟩
          subst c1 c2
          have d3 : ¬ (64 : Int) < (na : Int) + (nb : Int) + 1 := by omega
          have d4 : (64 : Int) < (na : Int) + 2 := by omega
          clear C c3 c4
          go_wp2_with fail
          refine (LV.out _ B2.out).mono ?_
          rintro e w3 ⟨rfl, hb⟩
          have B3 := hideR (beyond B2.out hb)
          clear hb LV B2
          go_wp2_with fail
          go_ret
          exact ⟨rfl, B3.out⟩
        · subst c1 c2
          have d3 : (64 : Int) < (na : Int) + (nb : Int) + 1 := by omega
          clear C c3
          go_wp2_with fail
          refine (LV.out _ B2.out).mono ?_
          rintro e w3 ⟨rfl, hb⟩
          have B3 := hideR (beyond B2.out hb)
          clear hb LV B2
          go_wp2_with fail
          go_ret
          exact ⟨rfl, B3.out⟩
      · have d2 : (ey == 0) = false := by simpa using c2
        subst c1
        clear C
        go_wp2_with fail
        refine (LV.out _ B2.out).mono ?_
        rintro e w3 ⟨rfl, hb⟩
        have B3 := hideR (beyond B2.out hb)
        clear hb LV B2
        go_wp2_with fail
        go_ret
        exact ⟨rfl, B3.out⟩
    · have d1 : (ex == 0) = false := by simpa using c1
      clear C
      go_wp2_with fail
      refine (LV.out _ B2.out).mono ?_
      rintro e w3 ⟨rfl, hb⟩
      have B3 := hideR (beyond B2.out hb)
      clear hb LV B2
      go_wp2_with fail
      go_ret
      exact ⟨rfl, B3.out⟩
end exprTurns
end Go.Proofs.YtmnhbokiibaopabDoor
