/-
  The walk of the statement ExtraGuards.
-/
import Derived.Test.YtmicgojhceeapaaDoorIkz
import Derived.Test.YtmicgojhceeapaaDoorIiz
namespace Go.Proofs.YtmicgojhceeapaaDoor
open Go.RowKit
set_option linter.unusedVariables false
set_option maxRecDepth 100000
theorem u64_nn (x : Int) : 0 ≤ IntKind.u64.wrap x := by rw [IntKind.wrap_u64]; omega
/-- What is left of a number, as a number from 0 to below another one. -/
theorem rem_at (x : Int) (m : Nat) (hm : 0 < m) (h8 : m ≤ 2000000) : ∃ k : Nat, k < m ∧ (IntKind.u64.wrap x).tmod (m : Int) = (k : Int) := by
  have h := u64_nn x
  generalize IntKind.u64.wrap x = y at *
  obtain ⟨z, rfl⟩ := Int.eq_ofNat_of_zero_le h
  refine ⟨z % m, Nat.mod_lt _ hm, ?_⟩
  rw [Int.tmod_eq_emod_of_nonneg (by omega), Int.natCast_emod]
set_option maxHeartbeats 8000000 in
theorem extraGuards.walk (n : Int) (hn : (Lit.int .i64 n).wf = true) (v : Value) (l : List Int) (v0 : Value) (l0 : List Int) (ck lo up : Int) (rd : Bool) (w : World) (ht : Pow w) (hS : SliceAt w v l) (wf : ∀ z ∈ l, (Lit.int .i32 z).wf = true) (hby : l.length * 4 ≤ 140737488355328) (hnil : ∀ {c}, v = .slice none 0 c → c = 0)
    (hi0 : IntsAt w v0 l0) (wf0 : ∀ z ∈ l0, (Lit.int .i64 z).wf = true) (by0 : l0.length ≤ 9223372036854775807) (w1 : (Lit.int .i64 ck).wf = true) (w2 : (Lit.int .i64 lo).wf = true) (w3 : (Lit.int .i64 up).wf = true) :
    Calls Tryd.prog 16 #[.int .i64 n, v, .agg #[v0, .int .i64 ck, .int .i64 lo, .int .i64 up, .bool rd]] w fun e w' => e = .returned (.bool true) ∧ Below w.heap.size w w' := by
  obtain ⟨o, z1, N1, s1⟩ := both5_any n v l w hS (wf_cells wf) (by omega)
  obtain ⟨d0, p0, rfl⟩ := hi0.form
  have HV : Hid (∀ w', Below w.heap.size w w' → Calls Tryd.prog 63 #[] w' fun e w'' => e = .returned (.bool true) ∧ Below w'.heap.size w' w'') := fun w' hb => elive_any w' (pow_later ht hb)
  have I0 : Hid (∀ w', Below w.heap.size w w' → IntsAt w' (.slice d0 l0.length p0) l0) := fun w' hb => hi0.past hb
  have B0 := hideD (below_one w (.cells #[.slice d0 l0.length p0, .int .i64 ck, .int .i64 lo, .int .i64 up, .bool rd] 113))
  have S1 := hideD s1
  have X0 : Hid ((w.alloc (.cells #[.slice d0 l0.length p0, .int .i64 ck, .int .i64 lo, .int .i64 up, .bool rd] 113)).cell? ⟨w.heap.size, 0, none⟩ = some (.slice d0 l0.length p0)) := by show _ = _; simp [go_sem]
  have X1 : Hid ((w.alloc (.cells #[.slice d0 l0.length p0, .int .i64 ck, .int .i64 lo, .int .i64 up, .bool rd] 113)).cell? ⟨w.heap.size, 1, none⟩ = some (.int .i64 ck)) := by show _ = _; simp [go_sem]
  have X2 : Hid ((w.alloc (.cells #[.slice d0 l0.length p0, .int .i64 ck, .int .i64 lo, .int .i64 up, .bool rd] 113)).cell? ⟨w.heap.size, 2, none⟩ = some (.int .i64 lo)) := by show _ = _; simp [go_sem]
  have X3 : Hid ((w.alloc (.cells #[.slice d0 l0.length p0, .int .i64 ck, .int .i64 lo, .int .i64 up, .bool rd] 113)).cell? ⟨w.heap.size, 3, none⟩ = some (.int .i64 up)) := by show _ = _; simp [go_sem]
  have X4 : Hid ((w.alloc (.cells #[.slice d0 l0.length p0, .int .i64 ck, .int .i64 lo, .int .i64 up, .bool rd] 113)).cell? ⟨w.heap.size, 4, none⟩ = some (.bool rd)) := by show _ = _; simp [go_sem]
  clear s1 hS wf hnil hby ht hn hi0 wf0 w1 w2 w3
  generalize hq0 : l0.length = q0 at *
  have Q0 := hideD hq0
  clear hq0
  go_enter Tryd.func16, Tryd.ntmps16
  go_wp2_with fail
  generalize w.alloc (.cells #[.slice d0 q0 p0, .int .i64 ck, .int .i64 lo, .int .i64 up, .bool rd] 113) = w0 at *
  have S2 := hideD (S1.out w0 B0.out)
  clear S1
  refine S2.out.mono ?_
  rintro e w1 ⟨⟨p, q, rfl, hp, hq⟩, hb1⟩
  have B1 := hideD (beyondD B0.out hb1.out)
  have x0 := kc _ _ hb1.out X0.out
  have x1 := kc _ _ hb1.out X1.out
  have x2 := kc _ _ hb1.out X2.out
  have x3 := kc _ _ hb1.out X3.out
  have x4 := kc _ _ hb1.out X4.out
  clear S2 hb1 hq X0 X1 X2 X3 X4 B0
  cases o with
  | none =>
    obtain rfl := hp.out
    have HN := hideD (max_err _ _ 1 w1 (lu_nil (.slice d0 q0 p0) (.slice d0 q0 p0) w1))
    have HV1 := hideD (HV.out w1 B1.out)
    clear hp z1 N1 HV
    go_wp2_with fail
    refine HN.out.mono ?_
    rintro e w2 ⟨rfl, rfl⟩
    clear HN
    go_wp2_with fail
    refine HV1.out.mono ?_
    rintro e w3 ⟨rfl, hb3⟩
    go_wp2_with fail
    go_ret
    exact ⟨rfl, beyondD B1.out hb3⟩
  | some u =>
    obtain ⟨N, c⟩ := u
    obtain ⟨hN, c32, b, rfl, hz⟩ := hp.out
    have zc := z1 N c rfl
    obtain rfl := N1 N c rfl
    have Z1 := hideD hz
    clear hp z1 N1 hz
    by_cases m0 : mayE N l0 = 0
    · obtain ⟨ca, za, ia, a1, a2, TA⟩ := lu_row hN (m := (N + 1) * (N + 1)) rfl zc m0 m0
      have hA1 := hideD (max_tells _ _ N _ w1 (TA w1 b q0 p0 q0 p0 d0 d0 Z1.out Q0.out (I0.out w1 B1.out) Q0.out (I0.out w1 B1.out)))
      obtain ⟨len, cst⟩ := mayE_zero m0
      obtain rfl : q0 = N := by have := Q0.out; omega
      have CST := hideD cst
      unfold Tells at hA1
      clear TA m0 cst
      go_wp2_with fail
      refine hA1.out.mono ?_
      rintro e w2 ⟨⟨B, pa, -, rfl, ha⟩, hb2⟩
      have B2 := hideD (beyondD B1.out hb2)
      have Z2 := hideD (Z1.out.past hb2)
      have A2 := hideD ha
      have y0 := kc _ _ hb2 x0
      have y1 := kc _ _ hb2 x1
      have y2 := kc _ _ hb2 x2
      have y3 := kc _ _ hb2 x3
      have y4 := kc _ _ hb2 x4
      clear hA1 ha hb2 B1 Z1 x0 x1 x2 x3 x4
      have n8 : ¬ ((8 : Int) < (q0 : Int)) := by omega
      by_cases n1 : (q0 : Int) < 1
      · have HV1 := hideD (HV.out w2 B2.out)
        clear HV I0
        go_wp2_with fail
        refine HV1.out.mono ?_
        rintro e w3 ⟨rfl, hb3⟩
        go_wp2_with fail
        go_ret
        exact ⟨rfl, beyondD B2.out hb3⟩
      · have s0 : ¬ (q0 : Int) = 0 := by omega
        obtain ⟨k, hk, ek⟩ := rem_at ck q0 (by omega) (by omega)
        have EK : Hid (wrap64 (1 + wrap64 ((IntKind.u64.wrap ck).tmod (q0 : Int))) = (k : Int) + 1) := by
          show _ = _
          rw [ek]
          unfold wrap64
          omega
        clear ek
        go_upto_region 8 with (fail)
        rw [EK.out]
        obtain ⟨cb, off, rfl, c0⟩ := (I0.out w2 B2.out).at Q0.out k hk
        have bd := cstA_at CST.out k (by have := Q0.out; omega)
        have k0 : (0 : Int) ≤ (k : Int) := by omega
        have k1 : (k : Int) < (q0 : Int) := by omega
        have wk : wrap64 (k : Int) = (k : Int) := by unfold wrap64; omega
        obtain ⟨mx, hmx⟩ : ∃ mx, l0.getD k 0 = mx := ⟨_, rfl⟩
        rw [hmx] at c0 bd
        have HMX := hideD hmx
        clear EK hmx
        by_cases mn : mx < 0
        · have HV1 := hideD (HV.out w2 B2.out)
          clear HV I0
          go_wp2_with fail
          refine HV1.out.mono ?_
          rintro e w3 ⟨rfl, hb3⟩
          go_wp2_with fail
          go_ret
          exact ⟨rfl, beyondD B2.out hb3⟩
        · obtain ⟨M, rfl⟩ := Int.eq_ofNat_of_zero_le (show 0 ≤ mx by omega)
          have wm : wrap64 ((M : Int) + 1) = (M : Int) + 1 := by unfold wrap64; omega
          have um : IntKind.u64.wrap ((M : Int) + 1) = (M : Int) + 1 := by rw [IntKind.wrap_u64]; omega
          have m1 : ¬ (M : Int) + 1 = 0 := by omega
          go_upto_region 11 with (fail)
          go_quiet (fail)
          obtain ⟨a, ha, ea⟩ := rem_at lo (M + 1) (by omega) (by omega)
          obtain ⟨d, hd, ed⟩ := rem_at up (M + 1) (by omega) (by omega)
          have EA : Hid (wrap64 ((IntKind.u64.wrap lo).tmod ((M : Int) + 1)) = (a : Int)) := by show _ = _; rw [show (M : Int) + 1 = ((M + 1 : Nat) : Int) by omega, ea]; unfold wrap64; omega
          have ED : Hid (wrap64 ((IntKind.u64.wrap up).tmod ((M : Int) + 1)) = (d : Int)) := by show _ = _; rw [show (M : Int) + 1 = ((M + 1 : Nat) : Int) by omega, ed]; unfold wrap64; omega
          rw [EA.out, ED.out]
          have B5 := hideD (below_drewN B2.out nq)
          have Z5 := hideD (Z2.out.past (below_drewN (Below.refl _ _) nq))
          have A5 := hideD (A2.out.past (below_drewN (Below.refl _ _) nq))
          have u4 : (w2.drewN nq).cell? ⟨w.heap.size, 4, none⟩ = some (.bool rd) := y4
          have a0 : (0 : Int) ≤ (a : Int) := by omega
          clear EA ED ea ed y0 y1 y2 y3 y4 c0 B2 Z2 A2 I0 wm um m1 wk k0 k1 mn
          generalize w2.drewN nq = w5 at *
          have wa : wrap64 (-2 * (a : Int)) = -2 * (a : Int) := by unfold wrap64; omega
          have wa2 : IntKind.i32.wrap (-2 * (a : Int)) = -2 * (a : Int) := by rw [IntKind.wrap_i32]; omega
          have wa3 : IntKind.i32.wrap (-2 * (a : Int) + 1) = -2 * (a : Int) + 1 := by rw [IntKind.wrap_i32]; omega
          have wd : wrap64 (2 * (d : Int)) = 2 * (d : Int) := by unfold wrap64; omega
          have wd2 : IntKind.i32.wrap (2 * (d : Int)) = 2 * (d : Int) := by rw [IntKind.wrap_i32]; omega
          have wd3 : IntKind.i32.wrap (2 * (d : Int) + 1) = 2 * (d : Int) + 1 := by rw [IntKind.wrap_i32]; omega
          have ci : ((k + 1 : Nat) : Int) = (k : Int) + 1 := by omega
          cases rd with
          | false =>
            have HH : Hd (M : Int) (-2 * (a : Int)) (2 * (d : Int)) := ⟨by omega, by omega, by omega, by omega, by omega, by omega⟩
            have kn : k + 1 ≤ q0 := by omega
            have g1 := gB_same (i := k + 1) hN (m := (q0 + 1) * (q0 + 1)) rfl zc kn (by omega) HMX.out HH ia a1 a2 (says_lo kn HH)
            have g2 := gB_same (i := k + 1) hN (m := (q0 + 1) * (q0 + 1)) rfl zc kn (by omega) HMX.out HH ia a1 a2 (says_hi kn HH)
            have g3 := gB_same (i := k + 1) hN (m := (q0 + 1) * (q0 + 1)) rfl zc kn (by omega) HMX.out HH ia a1 a2 (says_bo kn HH)
            have G1 : Hid (∀ (w' : World) (z : Nat) (r : Row), ZC q0 ((q0 + 1) * (q0 + 1)) r → ZoneAt w' z q0 r → Calls Tryd.prog 75 #[.pointer (some ⟨z, 0, none⟩), .slice (some ⟨w'.heap.size, 0, none⟩) 1 1] (w'.alloc (.cells #[.int .i64 0, .int .i64 ((k : Int) + 1), .int .i32 (-2 * (a : Int))] 83)) fun e w'' => GdOut e (gB q0 ((q0 + 1) * (q0 + 1)) r (Llo (k + 1) (-2 * (a : Int)))) ∧ Below (w'.alloc (.cells #[.int .i64 0, .int .i64 ((k : Int) + 1), .int .i32 (-2 * (a : Int))] 83)).heap.size (w'.alloc (.cells #[.int .i64 0, .int .i64 ((k : Int) + 1), .int .i32 (-2 * (a : Int))] 83)) w'') := by
              intro w' z r zr hz
              refine guarded_any (L := Llo (k + 1) (-2 * (a : Int))) hN rfl (hz.past (below_one w' _)) zr (fun j hj => ?_) (by simp) (fun j hj => ?_) (by show 1 ≤ 9223372036854775807; decide) (says_lo kn HH).1
              · obtain rfl : j = 0 := by have : j < 1 := hj; omega
                simp [go_sem, Llo]
              · show -2147483648 ≤ (-2 * (a : Int)) ∧ (-2 * (a : Int)) ≤ 2147483647; omega
            have G2 : Hid (∀ (w' : World) (z : Nat) (r : Row), ZC q0 ((q0 + 1) * (q0 + 1)) r → ZoneAt w' z q0 r → Calls Tryd.prog 75 #[.pointer (some ⟨z, 0, none⟩), .slice (some ⟨w'.heap.size, 0, none⟩) 1 1] (w'.alloc (.cells #[.int .i64 ((k : Int) + 1), .int .i64 0, .int .i32 (2 * (d : Int))] 83)) fun e w'' => GdOut e (gB q0 ((q0 + 1) * (q0 + 1)) r (Lhi (k + 1) (2 * (d : Int)))) ∧ Below (w'.alloc (.cells #[.int .i64 ((k : Int) + 1), .int .i64 0, .int .i32 (2 * (d : Int))] 83)).heap.size (w'.alloc (.cells #[.int .i64 ((k : Int) + 1), .int .i64 0, .int .i32 (2 * (d : Int))] 83)) w'') := by
              intro w' z r zr hz
              refine guarded_any (L := Lhi (k + 1) (2 * (d : Int))) hN rfl (hz.past (below_one w' _)) zr (fun j hj => ?_) (by simp) (fun j hj => ?_) (by show 1 ≤ 9223372036854775807; decide) (says_hi kn HH).1
              · obtain rfl : j = 0 := by have : j < 1 := hj; omega
                simp [go_sem, Lhi]
              · show -2147483648 ≤ (2 * (d : Int)) ∧ (2 * (d : Int)) ≤ 2147483647; omega
            have G3 : Hid (∀ (w' : World) (z : Nat) (r : Row), ZC q0 ((q0 + 1) * (q0 + 1)) r → ZoneAt w' z q0 r → Calls Tryd.prog 75 #[.pointer (some ⟨z, 0, none⟩), .slice (some ⟨w'.heap.size, 0, none⟩) 2 2] (w'.alloc (.cells #[.int .i64 0, .int .i64 ((k : Int) + 1), .int .i32 (-2 * (a : Int)), .int .i64 ((k : Int) + 1), .int .i64 0, .int .i32 (2 * (d : Int))] 83)) fun e w'' => GdOut e (gB q0 ((q0 + 1) * (q0 + 1)) r (Lbo (k + 1) (-2 * (a : Int)) (2 * (d : Int)))) ∧ Below (w'.alloc (.cells #[.int .i64 0, .int .i64 ((k : Int) + 1), .int .i32 (-2 * (a : Int)), .int .i64 ((k : Int) + 1), .int .i64 0, .int .i32 (2 * (d : Int))] 83)).heap.size (w'.alloc (.cells #[.int .i64 0, .int .i64 ((k : Int) + 1), .int .i32 (-2 * (a : Int)), .int .i64 ((k : Int) + 1), .int .i64 0, .int .i32 (2 * (d : Int))] 83)) w'') := by
              intro w' z r zr hz
              refine guarded_any (L := Lbo (k + 1) (-2 * (a : Int)) (2 * (d : Int))) hN rfl (hz.past (below_one w' _)) zr (fun j hj => ?_) (by simp) (fun j hj => ?_) (by show 2 ≤ 9223372036854775807; decide) (says_bo kn HH).1
              · rcases (show j = 0 ∨ j = 1 by have : j < 2 := hj; omega) with rfl | rfl <;> simp [go_sem, Lbo]
              · show -2147483648 ≤ (if j = 0 then -2 * (a : Int) else 2 * (d : Int)) ∧ (if j = 0 then -2 * (a : Int) else 2 * (d : Int)) ≤ 2147483647; split <;> omega
            have E1 := hideD g1
            have E2 := hideD g2
            have E3 := hideD g3
            clear g1 g2 g3 a1 a2 ia
            have bo : Below w5.heap.size w5 ((w5.alloc (.cells #[.int .i64 0, .int .i64 ((k : Int) + 1), .int .i32 (-2 * (a : Int))] 83)).alloc (.cells #[.int .i64 ((k : Int) + 1), .int .i64 0, .int .i32 (2 * (d : Int))] 83)) := ((Below.refl _ _).alloc (Nat.le_refl _) _).alloc (by simp) _
            have u5 : ((w5.alloc (.cells #[.int .i64 0, .int .i64 ((k : Int) + 1), .int .i32 (-2 * (a : Int))] 83)).alloc (.cells #[.int .i64 ((k : Int) + 1), .int .i64 0, .int .i32 (2 * (d : Int))] 83)).cell? ⟨w.heap.size, 4, none⟩ = some (.bool false) := kc _ _ bo u4
            clear bo
            go_upto_region 16 with (fail)
            have bo : Below w5.heap.size w5 ((w5.alloc (.cells #[.int .i64 0, .int .i64 ((k : Int) + 1), .int .i32 (-2 * (a : Int))] 83)).alloc (.cells #[.int .i64 ((k : Int) + 1), .int .i64 0, .int .i32 (2 * (d : Int))] 83)) := ((Below.refl _ _).alloc (Nat.le_refl _) _).alloc (by simp) _
            have l0_0 : ((w5.alloc (.cells #[.int .i64 0, .int .i64 ((k : Int) + 1), .int .i32 (-2 * (a : Int))] 83)).alloc (.cells #[.int .i64 ((k : Int) + 1), .int .i64 0, .int .i32 (2 * (d : Int))] 83)).cell? ⟨w5.heap.size, 0, none⟩ = some (.int .i64 0) := by simp [go_sem]
            have l1_0 : ((w5.alloc (.cells #[.int .i64 0, .int .i64 ((k : Int) + 1), .int .i32 (-2 * (a : Int))] 83)).alloc (.cells #[.int .i64 ((k : Int) + 1), .int .i64 0, .int .i32 (2 * (d : Int))] 83)).cell? ⟨w5.heap.size, 1, none⟩ = some (.int .i64 ((k : Int) + 1)) := by simp [go_sem]
            have l2_0 : ((w5.alloc (.cells #[.int .i64 0, .int .i64 ((k : Int) + 1), .int .i32 (-2 * (a : Int))] 83)).alloc (.cells #[.int .i64 ((k : Int) + 1), .int .i64 0, .int .i32 (2 * (d : Int))] 83)).cell? ⟨w5.heap.size, 2, none⟩ = some (.int .i32 (-2 * (a : Int))) := by simp [go_sem]
            have h0_0 : ((w5.alloc (.cells #[.int .i64 0, .int .i64 ((k : Int) + 1), .int .i32 (-2 * (a : Int))] 83)).alloc (.cells #[.int .i64 ((k : Int) + 1), .int .i64 0, .int .i32 (2 * (d : Int))] 83)).cell? ⟨w5.heap.size + 1, 0, none⟩ = some (.int .i64 ((k : Int) + 1)) := by simp [go_sem]
            have h1_0 : ((w5.alloc (.cells #[.int .i64 0, .int .i64 ((k : Int) + 1), .int .i32 (-2 * (a : Int))] 83)).alloc (.cells #[.int .i64 ((k : Int) + 1), .int .i64 0, .int .i32 (2 * (d : Int))] 83)).cell? ⟨w5.heap.size + 1, 1, none⟩ = some (.int .i64 0) := by simp [go_sem]
            have h2_0 : ((w5.alloc (.cells #[.int .i64 0, .int .i64 ((k : Int) + 1), .int .i32 (-2 * (a : Int))] 83)).alloc (.cells #[.int .i64 ((k : Int) + 1), .int .i64 0, .int .i32 (2 * (d : Int))] 83)).cell? ⟨w5.heap.size + 1, 2, none⟩ = some (.int .i32 (2 * (d : Int))) := by simp [go_sem]
            have B_0 := hideD (beyondD B5.out bo)
            have Z_0 := hideD (Z5.out.past bo)
            have A_0 := hideD (A5.out.past bo)
            clear bo u4 u5 B5 Z5 A5
            generalize ((w5.alloc (.cells #[.int .i64 0, .int .i64 ((k : Int) + 1), .int .i32 (-2 * (a : Int))] 83)).alloc (.cells #[.int .i64 ((k : Int) + 1), .int .i64 0, .int .i32 (2 * (d : Int))] 83)) = v0 at *
            generalize w5.heap.size = bA at *
            generalize hT1 : gB q0 ((q0 + 1) * (q0 + 1)) c (Llo (k + 1) (-2 * (a : Int))) = T1 at *
            generalize hT2 : gB q0 ((q0 + 1) * (q0 + 1)) c (Lhi (k + 1) (2 * (d : Int))) = T2 at *
            generalize hT3 : gB q0 ((q0 + 1) * (q0 + 1)) c (Lbo (k + 1) (-2 * (a : Int)) (2 * (d : Int))) = T3 at *
            have HT1 := hideD hT1
            have HT2 := hideD hT2
            have HT3 := hideD hT3
            clear hT1 hT2 hT3
            generalize hlw : (-2 * (a : Int) : Int) = lw at *
            generalize hhg : (2 * (d : Int) : Int) = hg at *
            clear hlw hhg wa wa2 wa3 wd wd2 wd3 HH
            have HX := G1.out v0 b c zc Z_0.out
            rw [HT1.out] at HX
            have HX := hideD HX
            go_wp2_with fail
            refine HX.out.mono ?_
            rintro e v1 ⟨⟨s0, rfl⟩, hb⟩
            have bo := below_one v0 (.cells #[.int .i64 0, .int .i64 ((k : Int) + 1), .int .i32 lw] 83)
            have l0_1 := kc _ _ hb (kc _ _ bo l0_0)
            have l1_1 := kc _ _ hb (kc _ _ bo l1_0)
            have l2_1 := kc _ _ hb (kc _ _ bo l2_0)
            have h0_1 := kc _ _ hb (kc _ _ bo h0_0)
            have h1_1 := kc _ _ hb (kc _ _ bo h1_0)
            have h2_1 := kc _ _ hb (kc _ _ bo h2_0)
            have B_1 := hideD (beyondD (beyondD B_0.out bo) hb)
            have Z_1 := hideD ((Z_0.out.past bo).past hb)
            have A_1 := hideD ((A_0.out.past bo).past hb)
            clear HX hb bo l0_0 l1_0 l2_0 h0_0 h1_0 h2_0 B_0 Z_0 A_0
            have HX := G1.out v1 pa ca za A_1.out
            rw [← E1.out] at HX
            have HX := hideD HX
            go_wp2_with fail
            refine HX.out.mono ?_
            rintro e v2 ⟨⟨s1, rfl⟩, hb⟩
            have bo := below_one v1 (.cells #[.int .i64 0, .int .i64 ((k : Int) + 1), .int .i32 lw] 83)
            have l0_2 := kc _ _ hb (kc _ _ bo l0_1)
            have l1_2 := kc _ _ hb (kc _ _ bo l1_1)
            have l2_2 := kc _ _ hb (kc _ _ bo l2_1)
            have h0_2 := kc _ _ hb (kc _ _ bo h0_1)
            have h1_2 := kc _ _ hb (kc _ _ bo h1_1)
            have h2_2 := kc _ _ hb (kc _ _ bo h2_1)
            have B_2 := hideD (beyondD (beyondD B_1.out bo) hb)
            have Z_2 := hideD ((Z_1.out.past bo).past hb)
            have A_2 := hideD ((A_1.out.past bo).past hb)
            clear HX hb bo l0_1 l1_1 l2_1 h0_1 h1_1 h2_1 B_1 Z_1 A_1
            have HX := G2.out v2 b c zc Z_2.out
            rw [HT2.out] at HX
            have HX := hideD HX
            go_wp2_with fail
            refine HX.out.mono ?_
            rintro e v3 ⟨⟨s2, rfl⟩, hb⟩
            have bo := below_one v2 (.cells #[.int .i64 ((k : Int) + 1), .int .i64 0, .int .i32 hg] 83)
            have l0_3 := kc _ _ hb (kc _ _ bo l0_2)
            have l1_3 := kc _ _ hb (kc _ _ bo l1_2)
            have l2_3 := kc _ _ hb (kc _ _ bo l2_2)
            have h0_3 := kc _ _ hb (kc _ _ bo h0_2)
            have h1_3 := kc _ _ hb (kc _ _ bo h1_2)
            have h2_3 := kc _ _ hb (kc _ _ bo h2_2)
            have B_3 := hideD (beyondD (beyondD B_2.out bo) hb)
            have Z_3 := hideD ((Z_2.out.past bo).past hb)
            have A_3 := hideD ((A_2.out.past bo).past hb)
            clear HX hb bo l0_2 l1_2 l2_2 h0_2 h1_2 h2_2 B_2 Z_2 A_2
            have HX := G2.out v3 pa ca za A_3.out
            rw [← E2.out] at HX
            have HX := hideD HX
            go_wp2_with fail
            refine HX.out.mono ?_
            rintro e v4 ⟨⟨s3, rfl⟩, hb⟩
            have bo := below_one v3 (.cells #[.int .i64 ((k : Int) + 1), .int .i64 0, .int .i32 hg] 83)
            have l0_4 := kc _ _ hb (kc _ _ bo l0_3)
            have l1_4 := kc _ _ hb (kc _ _ bo l1_3)
            have l2_4 := kc _ _ hb (kc _ _ bo l2_3)
            have h0_4 := kc _ _ hb (kc _ _ bo h0_3)
            have h1_4 := kc _ _ hb (kc _ _ bo h1_3)
            have h2_4 := kc _ _ hb (kc _ _ bo h2_3)
            have B_4 := hideD (beyondD (beyondD B_3.out bo) hb)
            have Z_4 := hideD ((Z_3.out.past bo).past hb)
            have A_4 := hideD ((A_3.out.past bo).past hb)
            clear HX hb bo l0_3 l1_3 l2_3 h0_3 h1_3 h2_3 B_3 Z_3 A_3
            have HX := G3.out v4 b c zc Z_4.out
            rw [HT3.out] at HX
            have HX := hideD HX
            go_wp2_with fail
            refine HX.out.mono ?_
            rintro e v5 ⟨⟨s4, rfl⟩, hb⟩
            have bo := below_one v4 (.cells #[.int .i64 0, .int .i64 ((k : Int) + 1), .int .i32 lw, .int .i64 ((k : Int) + 1), .int .i64 0, .int .i32 hg] 83)
            have l0_5 := kc _ _ hb (kc _ _ bo l0_4)
            have l1_5 := kc _ _ hb (kc _ _ bo l1_4)
            have l2_5 := kc _ _ hb (kc _ _ bo l2_4)
            have h0_5 := kc _ _ hb (kc _ _ bo h0_4)
            have h1_5 := kc _ _ hb (kc _ _ bo h1_4)
            have h2_5 := kc _ _ hb (kc _ _ bo h2_4)
            have B_5 := hideD (beyondD (beyondD B_4.out bo) hb)
            have Z_5 := hideD ((Z_4.out.past bo).past hb)
            have A_5 := hideD ((A_4.out.past bo).past hb)
            clear HX hb bo l0_4 l1_4 l2_4 h0_4 h1_4 h2_4 B_4 Z_4 A_4
            have HX := G3.out v5 pa ca za A_5.out
            rw [← E3.out] at HX
            have HX := hideD HX
            go_wp2_with fail
            refine HX.out.mono ?_
            rintro e v6 ⟨⟨s5, rfl⟩, hb⟩
            have bo := below_one v5 (.cells #[.int .i64 0, .int .i64 ((k : Int) + 1), .int .i32 lw, .int .i64 ((k : Int) + 1), .int .i64 0, .int .i32 hg] 83)
            have l0_6 := kc _ _ hb (kc _ _ bo l0_5)
            have l1_6 := kc _ _ hb (kc _ _ bo l1_5)
            have l2_6 := kc _ _ hb (kc _ _ bo l2_5)
            have h0_6 := kc _ _ hb (kc _ _ bo h0_5)
            have h1_6 := kc _ _ hb (kc _ _ bo h1_5)
            have h2_6 := kc _ _ hb (kc _ _ bo h2_5)
            have B_6 := hideD (beyondD (beyondD B_5.out bo) hb)
            have Z_6 := hideD ((Z_5.out.past bo).past hb)
            have A_6 := hideD ((A_5.out.past bo).past hb)
            clear HX hb bo l0_5 l1_5 l2_5 h0_5 h1_5 h2_5 B_5 Z_5 A_5
            have HV6 := hideD (HV.out v6 B_6.out)
            go_wp2_with fail
            refine HV6.out.mono ?_
            rintro e v7 ⟨rfl, hb⟩
            go_wp2_with fail
            go_ret
            exact ⟨by simp, beyondD B_6.out hb⟩
          | true =>
            have HH : Hd (M : Int) (-2 * (a : Int) + 1) (2 * (d : Int) + 1) := ⟨by omega, by omega, by omega, by omega, by omega, by omega⟩
            have kn : k + 1 ≤ q0 := by omega
            have g1 := gB_same (i := k + 1) hN (m := (q0 + 1) * (q0 + 1)) rfl zc kn (by omega) HMX.out HH ia a1 a2 (says_lo kn HH)
            have g2 := gB_same (i := k + 1) hN (m := (q0 + 1) * (q0 + 1)) rfl zc kn (by omega) HMX.out HH ia a1 a2 (says_hi kn HH)
            have g3 := gB_same (i := k + 1) hN (m := (q0 + 1) * (q0 + 1)) rfl zc kn (by omega) HMX.out HH ia a1 a2 (says_bo kn HH)
            have G1 : Hid (∀ (w' : World) (z : Nat) (r : Row), ZC q0 ((q0 + 1) * (q0 + 1)) r → ZoneAt w' z q0 r → Calls Tryd.prog 75 #[.pointer (some ⟨z, 0, none⟩), .slice (some ⟨w'.heap.size, 0, none⟩) 1 1] (w'.alloc (.cells #[.int .i64 0, .int .i64 ((k : Int) + 1), .int .i32 (-2 * (a : Int) + 1)] 83)) fun e w'' => GdOut e (gB q0 ((q0 + 1) * (q0 + 1)) r (Llo (k + 1) (-2 * (a : Int) + 1))) ∧ Below (w'.alloc (.cells #[.int .i64 0, .int .i64 ((k : Int) + 1), .int .i32 (-2 * (a : Int) + 1)] 83)).heap.size (w'.alloc (.cells #[.int .i64 0, .int .i64 ((k : Int) + 1), .int .i32 (-2 * (a : Int) + 1)] 83)) w'') := by
              intro w' z r zr hz
              refine guarded_any (L := Llo (k + 1) (-2 * (a : Int) + 1)) hN rfl (hz.past (below_one w' _)) zr (fun j hj => ?_) (by simp) (fun j hj => ?_) (by show 1 ≤ 9223372036854775807; decide) (says_lo kn HH).1
              · obtain rfl : j = 0 := by have : j < 1 := hj; omega
                simp [go_sem, Llo]
              · show -2147483648 ≤ (-2 * (a : Int) + 1) ∧ (-2 * (a : Int) + 1) ≤ 2147483647; omega
            have G2 : Hid (∀ (w' : World) (z : Nat) (r : Row), ZC q0 ((q0 + 1) * (q0 + 1)) r → ZoneAt w' z q0 r → Calls Tryd.prog 75 #[.pointer (some ⟨z, 0, none⟩), .slice (some ⟨w'.heap.size, 0, none⟩) 1 1] (w'.alloc (.cells #[.int .i64 ((k : Int) + 1), .int .i64 0, .int .i32 (2 * (d : Int) + 1)] 83)) fun e w'' => GdOut e (gB q0 ((q0 + 1) * (q0 + 1)) r (Lhi (k + 1) (2 * (d : Int) + 1))) ∧ Below (w'.alloc (.cells #[.int .i64 ((k : Int) + 1), .int .i64 0, .int .i32 (2 * (d : Int) + 1)] 83)).heap.size (w'.alloc (.cells #[.int .i64 ((k : Int) + 1), .int .i64 0, .int .i32 (2 * (d : Int) + 1)] 83)) w'') := by
              intro w' z r zr hz
              refine guarded_any (L := Lhi (k + 1) (2 * (d : Int) + 1)) hN rfl (hz.past (below_one w' _)) zr (fun j hj => ?_) (by simp) (fun j hj => ?_) (by show 1 ≤ 9223372036854775807; decide) (says_hi kn HH).1
              · obtain rfl : j = 0 := by have : j < 1 := hj; omega
                simp [go_sem, Lhi]
              · show -2147483648 ≤ (2 * (d : Int) + 1) ∧ (2 * (d : Int) + 1) ≤ 2147483647; omega
            have G3 : Hid (∀ (w' : World) (z : Nat) (r : Row), ZC q0 ((q0 + 1) * (q0 + 1)) r → ZoneAt w' z q0 r → Calls Tryd.prog 75 #[.pointer (some ⟨z, 0, none⟩), .slice (some ⟨w'.heap.size, 0, none⟩) 2 2] (w'.alloc (.cells #[.int .i64 0, .int .i64 ((k : Int) + 1), .int .i32 (-2 * (a : Int) + 1), .int .i64 ((k : Int) + 1), .int .i64 0, .int .i32 (2 * (d : Int) + 1)] 83)) fun e w'' => GdOut e (gB q0 ((q0 + 1) * (q0 + 1)) r (Lbo (k + 1) (-2 * (a : Int) + 1) (2 * (d : Int) + 1))) ∧ Below (w'.alloc (.cells #[.int .i64 0, .int .i64 ((k : Int) + 1), .int .i32 (-2 * (a : Int) + 1), .int .i64 ((k : Int) + 1), .int .i64 0, .int .i32 (2 * (d : Int) + 1)] 83)).heap.size (w'.alloc (.cells #[.int .i64 0, .int .i64 ((k : Int) + 1), .int .i32 (-2 * (a : Int) + 1), .int .i64 ((k : Int) + 1), .int .i64 0, .int .i32 (2 * (d : Int) + 1)] 83)) w'') := by
              intro w' z r zr hz
              refine guarded_any (L := Lbo (k + 1) (-2 * (a : Int) + 1) (2 * (d : Int) + 1)) hN rfl (hz.past (below_one w' _)) zr (fun j hj => ?_) (by simp) (fun j hj => ?_) (by show 2 ≤ 9223372036854775807; decide) (says_bo kn HH).1
              · rcases (show j = 0 ∨ j = 1 by have : j < 2 := hj; omega) with rfl | rfl <;> simp [go_sem, Lbo]
              · show -2147483648 ≤ (if j = 0 then -2 * (a : Int) + 1 else 2 * (d : Int) + 1) ∧ (if j = 0 then -2 * (a : Int) + 1 else 2 * (d : Int) + 1) ≤ 2147483647; split <;> omega
            have E1 := hideD g1
            have E2 := hideD g2
            have E3 := hideD g3
            clear g1 g2 g3 a1 a2 ia
            have bo : Below w5.heap.size w5 ((w5.alloc (.cells #[.int .i64 0, .int .i64 ((k : Int) + 1), .int .i32 (-2 * (a : Int))] 83)).alloc (.cells #[.int .i64 ((k : Int) + 1), .int .i64 0, .int .i32 (2 * (d : Int))] 83)) := ((Below.refl _ _).alloc (Nat.le_refl _) _).alloc (by simp) _
            have u5 : ((w5.alloc (.cells #[.int .i64 0, .int .i64 ((k : Int) + 1), .int .i32 (-2 * (a : Int))] 83)).alloc (.cells #[.int .i64 ((k : Int) + 1), .int .i64 0, .int .i32 (2 * (d : Int))] 83)).cell? ⟨w.heap.size, 4, none⟩ = some (.bool true) := kc _ _ bo u4
            clear bo
            go_upto_region 16 with (fail)
            have bo : Below w5.heap.size w5 ((w5.alloc (.cells #[.int .i64 0, .int .i64 ((k : Int) + 1), .int .i32 (-2 * (a : Int) + 1)] 83)).alloc (.cells #[.int .i64 ((k : Int) + 1), .int .i64 0, .int .i32 (2 * (d : Int) + 1)] 83)) := ((Below.refl _ _).alloc (Nat.le_refl _) _).alloc (by simp) _
            have l0_0 : ((w5.alloc (.cells #[.int .i64 0, .int .i64 ((k : Int) + 1), .int .i32 (-2 * (a : Int) + 1)] 83)).alloc (.cells #[.int .i64 ((k : Int) + 1), .int .i64 0, .int .i32 (2 * (d : Int) + 1)] 83)).cell? ⟨w5.heap.size, 0, none⟩ = some (.int .i64 0) := by simp [go_sem]
            have l1_0 : ((w5.alloc (.cells #[.int .i64 0, .int .i64 ((k : Int) + 1), .int .i32 (-2 * (a : Int) + 1)] 83)).alloc (.cells #[.int .i64 ((k : Int) + 1), .int .i64 0, .int .i32 (2 * (d : Int) + 1)] 83)).cell? ⟨w5.heap.size, 1, none⟩ = some (.int .i64 ((k : Int) + 1)) := by simp [go_sem]
            have l2_0 : ((w5.alloc (.cells #[.int .i64 0, .int .i64 ((k : Int) + 1), .int .i32 (-2 * (a : Int) + 1)] 83)).alloc (.cells #[.int .i64 ((k : Int) + 1), .int .i64 0, .int .i32 (2 * (d : Int) + 1)] 83)).cell? ⟨w5.heap.size, 2, none⟩ = some (.int .i32 (-2 * (a : Int) + 1)) := by simp [go_sem]
            have h0_0 : ((w5.alloc (.cells #[.int .i64 0, .int .i64 ((k : Int) + 1), .int .i32 (-2 * (a : Int) + 1)] 83)).alloc (.cells #[.int .i64 ((k : Int) + 1), .int .i64 0, .int .i32 (2 * (d : Int) + 1)] 83)).cell? ⟨w5.heap.size + 1, 0, none⟩ = some (.int .i64 ((k : Int) + 1)) := by simp [go_sem]
            have h1_0 : ((w5.alloc (.cells #[.int .i64 0, .int .i64 ((k : Int) + 1), .int .i32 (-2 * (a : Int) + 1)] 83)).alloc (.cells #[.int .i64 ((k : Int) + 1), .int .i64 0, .int .i32 (2 * (d : Int) + 1)] 83)).cell? ⟨w5.heap.size + 1, 1, none⟩ = some (.int .i64 0) := by simp [go_sem]
            have h2_0 : ((w5.alloc (.cells #[.int .i64 0, .int .i64 ((k : Int) + 1), .int .i32 (-2 * (a : Int) + 1)] 83)).alloc (.cells #[.int .i64 ((k : Int) + 1), .int .i64 0, .int .i32 (2 * (d : Int) + 1)] 83)).cell? ⟨w5.heap.size + 1, 2, none⟩ = some (.int .i32 (2 * (d : Int) + 1)) := by simp [go_sem]
            have B_0 := hideD (beyondD B5.out bo)
            have Z_0 := hideD (Z5.out.past bo)
            have A_0 := hideD (A5.out.past bo)
            clear bo u4 u5 B5 Z5 A5
            generalize ((w5.alloc (.cells #[.int .i64 0, .int .i64 ((k : Int) + 1), .int .i32 (-2 * (a : Int) + 1)] 83)).alloc (.cells #[.int .i64 ((k : Int) + 1), .int .i64 0, .int .i32 (2 * (d : Int) + 1)] 83)) = v0 at *
            generalize w5.heap.size = bA at *
            generalize hT1 : gB q0 ((q0 + 1) * (q0 + 1)) c (Llo (k + 1) (-2 * (a : Int) + 1)) = T1 at *
            generalize hT2 : gB q0 ((q0 + 1) * (q0 + 1)) c (Lhi (k + 1) (2 * (d : Int) + 1)) = T2 at *
            generalize hT3 : gB q0 ((q0 + 1) * (q0 + 1)) c (Lbo (k + 1) (-2 * (a : Int) + 1) (2 * (d : Int) + 1)) = T3 at *
            have HT1 := hideD hT1
            have HT2 := hideD hT2
            have HT3 := hideD hT3
            clear hT1 hT2 hT3
            generalize hlw : (-2 * (a : Int) + 1 : Int) = lw at *
            generalize hhg : (2 * (d : Int) + 1 : Int) = hg at *
            clear hlw hhg wa wa2 wa3 wd wd2 wd3 HH
            have HX := G1.out v0 b c zc Z_0.out
            rw [HT1.out] at HX
            have HX := hideD HX
            go_wp2_with fail
            refine HX.out.mono ?_
            rintro e v1 ⟨⟨s0, rfl⟩, hb⟩
            have bo := below_one v0 (.cells #[.int .i64 0, .int .i64 ((k : Int) + 1), .int .i32 lw] 83)
            have l0_1 := kc _ _ hb (kc _ _ bo l0_0)
            have l1_1 := kc _ _ hb (kc _ _ bo l1_0)
            have l2_1 := kc _ _ hb (kc _ _ bo l2_0)
            have h0_1 := kc _ _ hb (kc _ _ bo h0_0)
            have h1_1 := kc _ _ hb (kc _ _ bo h1_0)
            have h2_1 := kc _ _ hb (kc _ _ bo h2_0)
            have B_1 := hideD (beyondD (beyondD B_0.out bo) hb)
            have Z_1 := hideD ((Z_0.out.past bo).past hb)
            have A_1 := hideD ((A_0.out.past bo).past hb)
            clear HX hb bo l0_0 l1_0 l2_0 h0_0 h1_0 h2_0 B_0 Z_0 A_0
            have HX := G1.out v1 pa ca za A_1.out
            rw [← E1.out] at HX
            have HX := hideD HX
            go_wp2_with fail
            refine HX.out.mono ?_
            rintro e v2 ⟨⟨s1, rfl⟩, hb⟩
            have bo := below_one v1 (.cells #[.int .i64 0, .int .i64 ((k : Int) + 1), .int .i32 lw] 83)
            have l0_2 := kc _ _ hb (kc _ _ bo l0_1)
            have l1_2 := kc _ _ hb (kc _ _ bo l1_1)
            have l2_2 := kc _ _ hb (kc _ _ bo l2_1)
            have h0_2 := kc _ _ hb (kc _ _ bo h0_1)
            have h1_2 := kc _ _ hb (kc _ _ bo h1_1)
            have h2_2 := kc _ _ hb (kc _ _ bo h2_1)
            have B_2 := hideD (beyondD (beyondD B_1.out bo) hb)
            have Z_2 := hideD ((Z_1.out.past bo).past hb)
            have A_2 := hideD ((A_1.out.past bo).past hb)
            clear HX hb bo l0_1 l1_1 l2_1 h0_1 h1_1 h2_1 B_1 Z_1 A_1
            have HX := G2.out v2 b c zc Z_2.out
            rw [HT2.out] at HX
            have HX := hideD HX
            go_wp2_with fail
            refine HX.out.mono ?_
            rintro e v3 ⟨⟨s2, rfl⟩, hb⟩
            have bo := below_one v2 (.cells #[.int .i64 ((k : Int) + 1), .int .i64 0, .int .i32 hg] 83)
            have l0_3 := kc _ _ hb (kc _ _ bo l0_2)
            have l1_3 := kc _ _ hb (kc _ _ bo l1_2)
            have l2_3 := kc _ _ hb (kc _ _ bo l2_2)
            have h0_3 := kc _ _ hb (kc _ _ bo h0_2)
            have h1_3 := kc _ _ hb (kc _ _ bo h1_2)
            have h2_3 := kc _ _ hb (kc _ _ bo h2_2)
            have B_3 := hideD (beyondD (beyondD B_2.out bo) hb)
            have Z_3 := hideD ((Z_2.out.past bo).past hb)
            have A_3 := hideD ((A_2.out.past bo).past hb)
            clear HX hb bo l0_2 l1_2 l2_2 h0_2 h1_2 h2_2 B_2 Z_2 A_2
            have HX := G2.out v3 pa ca za A_3.out
            rw [← E2.out] at HX
            have HX := hideD HX
            go_wp2_with fail
            refine HX.out.mono ?_
            rintro e v4 ⟨⟨s3, rfl⟩, hb⟩
            have bo := below_one v3 (.cells #[.int .i64 ((k : Int) + 1), .int .i64 0, .int .i32 hg] 83)
            have l0_4 := kc _ _ hb (kc _ _ bo l0_3)
            have l1_4 := kc _ _ hb (kc _ _ bo l1_3)
            have l2_4 := kc _ _ hb (kc _ _ bo l2_3)
            have h0_4 := kc _ _ hb (kc _ _ bo h0_3)
            have h1_4 := kc _ _ hb (kc _ _ bo h1_3)
            have h2_4 := kc _ _ hb (kc _ _ bo h2_3)
            have B_4 := hideD (beyondD (beyondD B_3.out bo) hb)
            have Z_4 := hideD ((Z_3.out.past bo).past hb)
            have A_4 := hideD ((A_3.out.past bo).past hb)
            clear HX hb bo l0_3 l1_3 l2_3 h0_3 h1_3 h2_3 B_3 Z_3 A_3
            have HX := G3.out v4 b c zc Z_4.out
            rw [HT3.out] at HX
            have HX := hideD HX
            go_wp2_with fail
            refine HX.out.mono ?_
            rintro e v5 ⟨⟨s4, rfl⟩, hb⟩
            have bo := below_one v4 (.cells #[.int .i64 0, .int .i64 ((k : Int) + 1), .int .i32 lw, .int .i64 ((k : Int) + 1), .int .i64 0, .int .i32 hg] 83)
            have l0_5 := kc _ _ hb (kc _ _ bo l0_4)
            have l1_5 := kc _ _ hb (kc _ _ bo l1_4)
            have l2_5 := kc _ _ hb (kc _ _ bo l2_4)
            have h0_5 := kc _ _ hb (kc _ _ bo h0_4)
            have h1_5 := kc _ _ hb (kc _ _ bo h1_4)
            have h2_5 := kc _ _ hb (kc _ _ bo h2_4)
            have B_5 := hideD (beyondD (beyondD B_4.out bo) hb)
            have Z_5 := hideD ((Z_4.out.past bo).past hb)
            have A_5 := hideD ((A_4.out.past bo).past hb)
            clear HX hb bo l0_4 l1_4 l2_4 h0_4 h1_4 h2_4 B_4 Z_4 A_4
            have HX := G3.out v5 pa ca za A_5.out
            rw [← E3.out] at HX
            have HX := hideD HX
            go_wp2_with fail
            refine HX.out.mono ?_
            rintro e v6 ⟨⟨s5, rfl⟩, hb⟩
            have bo := below_one v5 (.cells #[.int .i64 0, .int .i64 ((k : Int) + 1), .int .i32 lw, .int .i64 ((k : Int) + 1), .int .i64 0, .int .i32 hg] 83)
            have l0_6 := kc _ _ hb (kc _ _ bo l0_5)
            have l1_6 := kc _ _ hb (kc _ _ bo l1_5)
            have l2_6 := kc _ _ hb (kc _ _ bo l2_5)
            have h0_6 := kc _ _ hb (kc _ _ bo h0_5)
            have h1_6 := kc _ _ hb (kc _ _ bo h1_5)
            have h2_6 := kc _ _ hb (kc _ _ bo h2_5)
            have B_6 := hideD (beyondD (beyondD B_5.out bo) hb)
            have Z_6 := hideD ((Z_5.out.past bo).past hb)
            have A_6 := hideD ((A_5.out.past bo).past hb)
            clear HX hb bo l0_5 l1_5 l2_5 h0_5 h1_5 h2_5 B_5 Z_5 A_5
            have HV6 := hideD (HV.out v6 B_6.out)
            go_wp2_with fail
            refine HV6.out.mono ?_
            rintro e v7 ⟨rfl, hb⟩
            go_wp2_with fail
            go_ret
            exact ⟨by simp, beyondD B_6.out hb⟩
    · have HE := hideD (max_err _ _ _ w1 (lu_err1 (u := .slice d0 q0 p0) Z1.out Q0.out (I0.out w1 B1.out) by0 m0))
      have he : (mayE N l0 != 0) = true := by simpa using m0
      have HV1 := hideD (HV.out w1 B1.out)
      generalize mayE N l0 = E at *
      clear I0 HV
      go_wp2_with fail
      refine HE.out.mono ?_
      rintro e w2 ⟨rfl, rfl⟩
      clear HE
      go_wp2_with fail
      refine HV1.out.mono ?_
      rintro e w3 ⟨rfl, hb3⟩
      go_wp2_with fail
      go_ret
      exact ⟨rfl, beyondD B1.out hb3⟩
end Go.Proofs.YtmicgojhceeapaaDoor
