/-
  The walk of the statement DbmMakes.
-/
import Derived.Test.YtbcfaepmhlanjaaGe
namespace Go.Proofs.Ytbcfaepmhlanjaa
open Go.RowKit
set_option linter.unusedVariables false
set_option maxRecDepth 100000
theorem pair_same2 {w : World} {n : Int} {vx vp : Value} (h : Pair w n vx vp) : Same2 w vx vp := by
  rcases h with h | ⟨N, b, r, c, -, h2, h3, h4, h5, h6, -⟩
  · exact .inl h
  · exact .inr ⟨N, b, r, c, h2, h3, h4, h5, h6⟩
/-- Dim of both is the same. -/
theorem pair_dim {w : World} {n : Int} {vx vp : Value} (h : Pair w n vx vp) : ∃ d : Int, (∀ w', Below w.heap.size w w' → Calls Try.prog 14 #[vx] w' fun e w'' => e = .returned (.int .i64 d) ∧ w'' = w') ∧ (∀ w', Below w.heap.size w w' → Calls Try.prog 15 #[vp] w' fun e w'' => e = .returned (.int .i64 d) ∧ w'' = w') := by
  rcases h with ⟨rfl, rfl⟩ | ⟨N, b, r, c, -, h2, rfl, rfl, hz, hr, -⟩
  · exact ⟨0, fun w' _ => zdim_nil w', fun w' _ => rdim_nil w'⟩
  · exact ⟨N, fun w' hb => zdim_any b N c w' (hz.past hb), fun w' hb => rdim_any (hr.past hb)⟩
/-- Empty of both is the same. -/
theorem pair_empty {w : World} {n : Int} {vx vp : Value} (h : Pair w n vx vp) : ∃ q : Bool, (∀ w', Below w.heap.size w w' → Calls Try.prog 16 #[vx] w' fun e w'' => e = .returned (.bool q) ∧ Below w'.heap.size w' w'') ∧ (∀ w', Below w.heap.size w w' → Calls Try.prog 17 #[vp] w' fun e w'' => e = .returned (.bool q) ∧ Below w'.heap.size w' w'') := by
  rcases h with ⟨rfl, rfl⟩ | ⟨N, b, r, c, -, N8, rfl, rfl, hz, hr, hm⟩
  · refine ⟨false, fun w' _ => (zempty_nil w').mono ?_, fun w' _ => (rempty_nil w').mono ?_⟩
    · rintro e w'' ⟨rfl, rfl⟩
      exact ⟨rfl, Below.refl _ _⟩
    · rintro e w'' ⟨rfl, rfl⟩
      exact ⟨rfl, Below.refl _ _⟩
  · have mp : 0 < (N + 1) * (N + 1) := Nat.mul_pos (by omega) (by omega)
    refine ⟨decide (c 0 < 1), fun w' hb => zempty_any b N c w' N8 (hz.past hb), fun w' hb => ?_⟩
    have e : (c 0 != 1) = decide (c 0 < 1) := by
      rcases hm.head with h | h
      · rw [h]; rfl
      · rw [h 0]; rfl
    have R := RZone_head (hr.past hb) mp
    rw [e] at R
    refine R.mono ?_
    rintro e w'' ⟨rfl, rfl⟩
    exact ⟨rfl, Below.refl _ _⟩
namespace dbmMakes
set_option maxHeartbeats 8000000 in
theorem walk (n : Int) (v : Value) (l : List Int) (vl : Value) (L : Lims) (w : World) (hS : SliceAt w v l) (hi : ∀ j, j < l.length → -2147483648 ≤ l.getD j 0 ∧ l.getD j 0 ≤ 2147483647) (hby : l.length * 4 ≤ 140737488355328) (hnil : ∀ {c}, v = .slice none 0 c → c = 0) (hL : LimS w vl L) (hiL : ∀ k, k < L.q → -2147483648 ≤ L.b k ∧ L.b k ≤ 2147483647) (hbyL : L.q * 24 ≤ 140737488355328) (hnilL : ∀ {c}, vl = .slice none 0 c → c = 0) :
    Calls Try.prog 3 #[.int .i64 n, v, vl] w fun e w' => e = .returned (.bool true) ∧ Below w.heap.size w w' := by
  obtain ⟨i0, hi0, hz0, hz1, hz2⟩ := info_parts info_bd
  obtain ⟨j0, hj0, hy0, hy1, hy2⟩ := info3 info_lim
  go_enter Try.func3, Try.ntmps3
  go_upto_region 2 with (fail)
  go_cut [7] (fun s w' => SliceAt w' s l ∧ Below w.heap.size w w')
  case first =>
    rcases hS with ⟨ad, c, rfl, rfl⟩ | ⟨b, off, cap, rfl, hc⟩
    · cases ad with
      | none =>
        obtain rfl := hnil rfl
        go_wp2_with fail
        go_meet
        exact ⟨.inl ⟨_, _, rfl, rfl⟩, Below.refl _ _⟩
      | some ad =>
        clear hnil
        go_wp2_with (at_builtin; refine wpList_append_own _ rfl _ _ 22 rfl w.heap.size 37 i0 (.int .i32 0) 1 4 Try.underlying22 hi0 hz0 hz1 hz2 rfl (by decide) (.slice none 0 0) 0 [] rfl (World.ownsRow_nil _ _ _ _) ad 0 c [] rfl rfl (fun j u h => by simp at h) (fun x hx => by simp at hx) (by decide) (by decide) (Nat.le_refl _) ?_; intro v' w1 hown hgrow hnil')
        have hb1 : Below w.heap.size w w1 := (Below.refl _ _).grown hgrow (Nat.le_refl _) (by intro k hk; cases hk)
        have hv : v' = .slice none 0 0 := by simpa using hnil'
        subst hv
        go_meet
        exact ⟨.inl ⟨_, _, rfl, rfl⟩, hb1⟩
    · by_cases hp : 0 < l.length
      · have HN : Hid (∀ j u, (l.map (Value.int .i32))[j]? = some u → w.cell? ((⟨b, off, none⟩ : Addr).add j) = some u) := by
          intro j u hu
          rw [Addr.add_lit]
          by_cases hj : j < l.length
          · rw [hc j hj]
            simp [hj] at hu
            simp [List.getD, hj, hu]
          · rw [List.getElem?_eq_none (by simp; omega)] at hu
            cases hu
        clear hnil hc
        go_wp2_with (at_builtin; refine wpList_append_own _ rfl _ _ 22 rfl w.heap.size 37 i0 (.int .i32 0) 1 4 Try.underlying22 hi0 hz0 hz1 hz2 rfl (by decide) (.slice none 0 0) 0 [] rfl (World.ownsRow_nil _ _ _ _) ⟨b, off, none⟩ l.length cap (l.map (Value.int .i32)) rfl (by simp) HN.out (fun x hx => by obtain ⟨z, _, rfl⟩ := List.mem_map.1 hx; rfl) (by unfold maxLen; omega) (by omega) (Nat.le_refl _) ?_; intro v' w1 hown hgrow hnil')
        have hb1 : Below w.heap.size w w1 := (Below.refl _ _).grown hgrow (Nat.le_refl _) (by intro k hk; cases hk)
        have hown' : w1.ownsRow w.heap.size 37 1 v' l.length (l.map (Value.int .i32)) := by simpa using hown
        obtain ⟨m', hm'⟩ : ∃ m', l.length = m' + 1 := ⟨l.length - 1, by omega⟩
        have hown2 := hown'
        rw [hm'] at hown2
        obtain ⟨g', cap', rfl⟩ := own_form hown2
        rw [← hm'] at hown'
        have hS2 : SliceAt w1 (.slice (some ⟨g', 0, none⟩) (m' + 1) cap') l := by
          rw [← hm']
          refine .inr ⟨g', 0, cap', rfl, fun j hj => ?_⟩
          rw [Nat.zero_add, hown'.cellAt j (by omega)]
          simp [List.getD, hj]
        go_meet
        exact ⟨hS2, hb1⟩
      · have hl0 : l = [] := List.length_eq_zero_iff.1 (by omega)
        subst hl0
        clear hnil hc
        go_wp2_with (at_builtin; refine wpList_append_own _ rfl _ _ 22 rfl w.heap.size 37 i0 (.int .i32 0) 1 4 Try.underlying22 hi0 hz0 hz1 hz2 rfl (by decide) (.slice none 0 0) 0 [] rfl (World.ownsRow_nil _ _ _ _) ⟨b, off, none⟩ 0 cap [] rfl rfl (fun j u h => by simp at h) (fun x hx => by simp at hx) (by decide) (by decide) (Nat.le_refl _) ?_; intro v' w1 hown hgrow hnil')
        have hb1 : Below w.heap.size w w1 := (Below.refl _ _).grown hgrow (Nat.le_refl _) (by intro k hk; cases hk)
        have hv : v' = .slice none 0 0 := by simpa using hnil'
        subst hv
        go_meet
        exact ⟨.inl ⟨_, _, rfl, rfl⟩, hb1⟩
  case rest =>
    obtain ⟨hO, hb1⟩ := hcut
    have O1 := hideD hO
    have SV := hideD (hS.later hb1)
    have LV := hideD (hL.later hb1)
    have B1 := hideD hb1
    have HI := hideD hi
    have HIL := hideD hiL
    clear hO hS hL hb1 hnil hi hiL hi0 hz0 hz1 hz2
    go_upto_region 4 with (fail)
    go_cut [8] (fun s w' => LimS w' s L ∧ Below wc.heap.size wc w')
    case first =>
      rcases LV.out with ⟨ad, c, rfl, q0⟩ | ⟨b, off, cap, rfl, lt, hc⟩
      · cases ad with
        | none =>
          obtain rfl := hnilL rfl
          clear hnilL
          go_wp2_with fail
          go_meet
          exact ⟨.inl ⟨_, _, rfl, q0⟩, Below.refl _ _⟩
        | some ad =>
          clear hnilL
          go_wp2_with (at_builtin; refine wpList_append_own _ rfl _ _ 23 rfl wc.heap.size 39 j0 (.agg #[.int .i64 0, .int .i64 0, .int .i32 0]) 3 24 Try.underlying23 hj0 hy0 hy1 hy2 rfl (by decide) (.slice none 0 0) 0 [] rfl (World.ownsRow_nil _ _ _ _) ad 0 c [] rfl rfl (fun j u h => by simp at h) (fun x hx => by simp at hx) (by decide) (by decide) (Nat.le_refl _) ?_; intro v' w1 hown hgrow hnil')
          have hb1 : Below wc.heap.size wc w1 := (Below.refl _ _).grown hgrow (Nat.le_refl _) (by intro k hk; cases hk)
          have hv : v' = .slice none 0 0 := by simpa using hnil'
          subst hv
          go_meet
          exact ⟨.inl ⟨_, _, rfl, q0⟩, hb1⟩
      · by_cases hp : 0 < L.q
        · have HN : Hid (∀ j u, (fl L L.q)[j]? = some u → wc.cell? ((⟨b, off, none⟩ : Addr).add j) = some u) := by
            intro j u hu
            rw [Addr.add_lit]
            by_cases hj : j < 3 * L.q
            · rw [row_cells hc j hj, ← hu, fl_get _ _ _ hj]
            · rw [List.getElem?_eq_none (by rw [fl_len]; omega)] at hu
              cases hu
          have FL := fl_len L L.q
          have FO : Hid (∀ u ∈ fl L L.q, u.oneCell' = true) := fun u hu => by
            obtain ⟨j, _, rfl⟩ := List.mem_map.1 hu
            unfold cv
            split
            · rfl
            · split <;> rfl
          have FG : Hid (∀ j, j < 3 * L.q → (fl L L.q)[j]? = some (cv L j)) := fun j hj => fl_get _ _ _ hj
          clear hnilL hc
          generalize fl L L.q = fz at *
          go_wp2_with (at_builtin; refine wpList_append_own _ rfl _ _ 23 rfl wc.heap.size 39 j0 (.agg #[.int .i64 0, .int .i64 0, .int .i32 0]) 3 24 Try.underlying23 hj0 hy0 hy1 hy2 rfl (by decide) (.slice none 0 0) 0 [] rfl (World.ownsRow_nil _ _ _ _) ⟨b, off, none⟩ L.q cap fz rfl (by rw [FL]; omega) HN.out FO.out (by unfold maxLen; omega) (by omega) (Nat.le_refl _) ?_; intro v' w1 hown hgrow hnil')
          have hb1 : Below wc.heap.size wc w1 := (Below.refl _ _).grown hgrow (Nat.le_refl _) (by intro k hk; cases hk)
          have hown' : w1.ownsRow wc.heap.size 39 3 v' L.q fz := by simpa using hown
          obtain ⟨m', hm'⟩ : ∃ m', L.q = m' + 1 := ⟨L.q - 1, by omega⟩
          have hown2 := hown'
          rw [hm'] at hown2
          obtain ⟨g', cap', rfl⟩ := own_form3 hown2
          rw [← hm'] at hown'
          have lt' := hown'.lt g' rfl
          have hS2 : LimS w1 (.slice (some ⟨g', 0, none⟩) (m' + 1) cap') L := by
            rw [← hm']
            refine .inr ⟨g', 0, cap', rfl, lt'.2, cells_row fun j hj => ?_⟩
            rw [Nat.zero_add, hown'.cellAt j (by omega), FG.out j hj]
          go_meet
          exact ⟨hS2, hb1⟩
        · have Q0 : Hid (L.q = 0) := by show L.q = 0; omega
          clear hnilL hc hp
          go_wp2_with (at_builtin; refine wpList_append_own _ rfl _ _ 23 rfl wc.heap.size 39 j0 (.agg #[.int .i64 0, .int .i64 0, .int .i32 0]) 3 24 Try.underlying23 hj0 hy0 hy1 hy2 rfl (by decide) (.slice none 0 0) 0 [] rfl (World.ownsRow_nil _ _ _ _) ⟨b, off, none⟩ L.q cap [] rfl (by rw [Q0.out]; rfl) (fun j u h => by simp at h) (fun x hx => by simp at hx) (by rw [Q0.out]; decide) (by rw [Q0.out]; decide) (Nat.le_refl _) ?_; intro v' w1 hown hgrow hnil')
          have hb1 : Below wc.heap.size wc w1 := (Below.refl _ _).grown hgrow (Nat.le_refl _) (by intro k hk; cases hk)
          have hv : v' = .slice none 0 0 := by simpa [Q0.out] using hnil'
          subst hv
          go_meet
          exact ⟨.inl ⟨_, _, rfl, Q0.out⟩, hb1⟩
    case rest =>
      clear hnilL hj0 hy0 hy1 hy2
      rename_i wc1
      obtain ⟨hr, hb2⟩ := hcut
      have RO := hideD hr
      have O2 := hideD (O1.out.later hb2)
      have SV2 := hideD (SV.out.later hb2)
      have LV2 := hideD (LV.out.later hb2)
      have B2 := hideD (beyondD B1.out hb2)
      have BO := hideD (both_any n u7 l wc O2.out HI.out (by omega))
      have q1 : (L.q : Int) ≤ 9223372036854775807 := by omega
      clear hr hb2 O1 SV LV B1
      go_wp2_with fail
      refine BO.out.mono ?_
      rintro x w3 ⟨hx, hb⟩
      obtain ⟨vz, vr, rfl, pz⟩ := pair_of hx
      have P3 := hideD pz
      have O3 := hideD (O2.out.later hb)
      have S3 := hideD (SV2.out.later hb)
      have L3 := hideD (LV2.out.later hb)
      have R3 := hideD (RO.out.later hb)
      have B3 := hideD (beyondD B2.out hb)
      clear hx pz hb O2 SV2 LV2 RO B2 BO HI
      go_wp2_with fail
      refine (live_any _).mono ?_
      rintro x w4 ⟨rfl, hb⟩
      have P4 := hideD (P3.out.past hb)
      have SS := hideD (same_slices u7 v l w4 (O3.out.later hb) (S3.out.later hb) (by omega))
      have L4 := hideD (L3.out.later hb)
      have R4 := hideD (R3.out.later hb)
      have B4 := hideD (beyondD B3.out hb)
      clear hb O3 S3 L3 R3 B3 P3
      go_wp2_with fail
      refine SS.out.mono ?_
      rintro x w5 ⟨rfl, k, rfl⟩
      have bd := below_draw w4 k
      have P5 := hideD (P4.out.past bd)
      have L5 := hideD (L4.out.later bd)
      have R5 := hideD (R4.out.later bd)
      have B5 := hideD (beyondD B4.out bd)
      generalize w4.drewN k = w5 at *
      have T := hideD (two_calls (two_limits n u8 vl L w5 R5.out L5.out HIL.out (by omega)))
      clear bd SS P4 L4 R4 B4
      go_wp2_with fail
      refine T.out.mono ?_
      rintro x w6 ⟨⟨v1, e1, rfl, c1⟩, hb⟩
      have C1 := hideD (c1 _ (Below.refl _ _))
      have P6 := hideD (P5.out.past hb)
      have L6 := hideD (L5.out.later hb)
      have R6 := hideD (R5.out.later hb)
      have B6 := hideD (beyondD B5.out hb)
      clear T hb c1 P5 L5 R5 B5
      go_wp2_with fail
      refine C1.out.mono ?_
      rintro x w7 ⟨⟨v2, rfl, s7⟩, hb⟩
      have X7 := hideD s7
      have P7 := hideD (P6.out.past hb)
      have L7 := hideD (L6.out.later hb)
      have R7 := hideD (R6.out.later hb)
      have B7 := hideD (beyondD B6.out hb)
      have T := hideD (two_calls (two_universe n w7))
      clear C1 hb s7 P6 L6 R6 B6
      go_wp2_with fail
      refine T.out.mono ?_
      rintro x w8 ⟨⟨v3, e3, rfl, c1⟩, hb⟩
      have C1 := hideD (c1 _ (Below.refl _ _))
      have X8 := hideD (X7.out.past hb)
      have P8 := hideD (P7.out.past hb)
      have L8 := hideD (L7.out.later hb)
      have R8 := hideD (R7.out.later hb)
      have B8 := hideD (beyondD B7.out hb)
      clear T hb c1 P7 L7 R7 B7 X7
      go_wp2_with fail
      refine C1.out.mono ?_
      rintro x w9 ⟨⟨v4, rfl, s9⟩, hb⟩
      have Y9 := hideD s9
      have X9 := hideD (X8.out.past hb)
      have P9 := hideD (P8.out.past hb)
      have L9 := hideD (L8.out.later hb)
      have R9 := hideD (R8.out.later hb)
      have B9 := hideD (beyondD B8.out hb)
      have T := hideD (two_calls (two_zero n w9))
      clear C1 hb s9 P8 L8 R8 B8 X8
      go_wp2_with fail
      refine T.out.mono ?_
      rintro x w10 ⟨⟨v5, e5, rfl, c1⟩, hb⟩
      have C1 := hideD (c1 _ (Below.refl _ _))
      have Y10 := hideD (Y9.out.past hb)
      have X10 := hideD (X9.out.past hb)
      have P10 := hideD (P9.out.past hb)
      have L10 := hideD (L9.out.later hb)
      have R10 := hideD (R9.out.later hb)
      have B10 := hideD (beyondD B9.out hb)
      clear T hb c1 P9 L9 R9 B9 X9 Y9
      go_wp2_with fail
      refine C1.out.mono ?_
      rintro x w11 ⟨⟨v6, rfl, s11⟩, hb⟩
      have Z11 := hideD s11
      have Y11 := hideD (Y10.out.past hb)
      have X11 := hideD (X10.out.past hb)
      have P11 := hideD (P10.out.past hb)
      have L11 := hideD (L10.out.later hb)
      have R11 := hideD (R10.out.later hb)
      have B11 := hideD (beyondD B10.out hb)
      clear C1 hb s11 P10 L10 R10 B10 X10 Y10
      obtain ⟨adl, capl, evl, HL⟩ : ∃ ad cap, vl = .slice ad L.q cap ∧ Hid (∀ k, k < L.q → ∃ b off, ad = some ⟨b, off, none⟩ ∧ w11.cell? ⟨b, off + k * 3, none⟩ = some (.int .i64 (L.i k)) ∧ w11.cell? ⟨b, off + k * 3 + 1, none⟩ = some (.int .i64 (L.j k)) ∧ w11.cell? ⟨b, off + k * 3 + 2, none⟩ = some (.int .i32 (L.b k))) := by
        rcases L11.out with ⟨ad, c, e, q0⟩ | ⟨b, off, cap, e, lt, hc⟩
        · exact ⟨ad, c, by rw [q0]; exact e, fun k hk => by omega⟩
        · exact ⟨_, cap, e, fun k hk => ⟨b, off, rfl, hc k hk⟩⟩
      obtain ⟨adr, capr, evr, HR⟩ : ∃ ad cap, u8 = .slice ad L.q cap ∧ Hid (∀ k, k < L.q → ∃ b off, ad = some ⟨b, off, none⟩ ∧ w11.cell? ⟨b, off + k * 3, none⟩ = some (.int .i64 (L.i k)) ∧ w11.cell? ⟨b, off + k * 3 + 1, none⟩ = some (.int .i64 (L.j k)) ∧ w11.cell? ⟨b, off + k * 3 + 2, none⟩ = some (.int .i32 (L.b k))) := by
        rcases R11.out with ⟨ad, c, e, q0⟩ | ⟨b, off, cap, e, lt, hc⟩
        · exact ⟨ad, c, by rw [q0]; exact e, fun k hk => by omega⟩
        · exact ⟨_, cap, e, fun k hk => ⟨b, off, rfl, hc k hk⟩⟩
      clear L11 R11
      subst evl evr
      generalize em : L.q = q at *
      have EM := hideD em
      clear em
      go_wp2_with fail
      go_loopw [24] (fun s wr => ∃ (I k : Nat), I ≤ q ∧ s = .int .i64 I ∧ wr = w11.drewN k) (fun s _ => q - (intOf s).toNat)
      case atStart => exact ⟨0, 0, by omega, rfl, rfl⟩
      case round =>
        obtain ⟨I, k, hI, rfl, rfl⟩ := hrel
        by_cases ci : I < q
        · obtain ⟨b1, o1, rfl, a1, a2, a3⟩ := HL.out I ci
          obtain ⟨b2, o2, rfl, a4, a5, a6⟩ := HR.out I ci
          have i0 : (0 : Int) ≤ (I : Int) := by omega
          have i1 : (I : Int) < (q : Int) := by omega
          generalize L.i I = x at *
          generalize L.j I = y at *
          generalize L.b I = z at *
          go_wp2_with fail
          go_quiet (fail)
          go_wp2_with fail
          go_roundw
          case rel => exact ⟨I + 1, _, by omega, by go_num, rfl⟩
          case measure => simp [intOf]; omega
        · have bd := below_draw w11 k
          have X12 := hideD (X11.out.past bd)
          have Y12 := hideD (Y11.out.past bd)
          have Z12 := hideD (Z11.out.past bd)
          have B12 := hideD (beyondD B11.out bd)
          obtain ⟨dd, d1, d2⟩ := pair_dim (P11.out.past bd)
          obtain ⟨em, m1, m2⟩ := pair_empty (P11.out.past bd)
          have D1 := hideD (d1 _ (Below.refl _ _))
          have D2 := hideD (d2 _ (Below.refl _ _))
          have M1 := hideD (m1 _ (Below.refl _ _))
          have M2 := hideD m2
          generalize w11.drewN k = w12 at *
          clear d1 d2 m1 m2 bd X11 Y11 Z11 B11 P11 HL HR
          go_wp2_with fail
          refine D1.out.mono ?_
          rintro x w13 ⟨rfl, rfl⟩
          go_wp2_with fail
          refine D2.out.mono ?_
          rintro x w13 ⟨rfl, rfl⟩
          go_wp2_with fail
          refine M1.out.mono ?_
          rintro x w14 ⟨rfl, hb⟩
          have M3 := hideD (M2.out _ hb)
          have X13 := hideD (X12.out.past hb)
          have Y13 := hideD (Y12.out.past hb)
          have Z13 := hideD (Z12.out.past hb)
          have B13 := hideD (beyondD B12.out hb)
          clear hb D1 D2 M1 M2 X12 Y12 Z12 B12
          go_wp2_with fail
          refine M3.out.mono ?_
          rintro x w15 ⟨rfl, hb⟩
          have X14 := hideD (same2_cells (X13.out.past hb))
          have Y14 := hideD (Y13.out.past hb)
          have Z14 := hideD (Z13.out.past hb)
          have B14 := hideD (beyondD B13.out hb)
          clear hb M3 X13 Y13 Z13 B13
          go_wp2_with fail
          refine X14.out.mono ?_
          rintro x w16 ⟨⟨t1, rfl, k1⟩, hb⟩
          have K1 := hideD (k1 _ (Below.refl _ _))
          have Y15 := hideD (Y14.out.past hb)
          have Z15 := hideD (Z14.out.past hb)
          have B15 := hideD (beyondD B14.out hb)
          clear hb k1 X14 Y14 Z14 B14
          go_wp2_with fail
          refine K1.out.mono ?_
          rintro x w17 ⟨⟨t2, rfl, k2⟩, hb⟩
          have K2 := hideD (k2 _ (Below.refl _ _))
          have Y16 := hideD (Y15.out.past hb)
          have Z16 := hideD (Z15.out.past hb)
          have B16 := hideD (beyondD B15.out hb)
          clear hb k2 K1 Y15 Z15 B15
          go_wp2_with fail
          refine K2.out.mono ?_
          rintro x w18 ⟨rfl, hb⟩
          have Y17 := hideD (same2_cells (Y16.out.past hb))
          have Z17 := hideD (Z16.out.past hb)
          have B17 := hideD (beyondD B16.out hb)
          clear hb K2 Y16 Z16 B16
          go_wp2_with fail
          refine Y17.out.mono ?_
          rintro x w19 ⟨⟨t3, rfl, k1⟩, hb⟩
          have K1 := hideD (k1 _ (Below.refl _ _))
          have Z18 := hideD (Z17.out.past hb)
          have B18 := hideD (beyondD B17.out hb)
          clear hb k1 Y17 Z17 B17
          go_wp2_with fail
          refine K1.out.mono ?_
          rintro x w20 ⟨⟨t4, rfl, k2⟩, hb⟩
          have K2 := hideD (k2 _ (Below.refl _ _))
          have Z19 := hideD (Z18.out.past hb)
          have B19 := hideD (beyondD B18.out hb)
          clear hb k2 K1 Z18 B18
          go_wp2_with fail
          refine K2.out.mono ?_
          rintro x w21 ⟨rfl, hb⟩
          have Z20 := hideD (same2_cells (Z19.out.past hb))
          have B20 := hideD (beyondD B19.out hb)
          clear hb K2 Z19 B19
          go_wp2_with fail
          refine Z20.out.mono ?_
          rintro x w22 ⟨⟨t5, rfl, k1⟩, hb⟩
          have K1 := hideD (k1 _ (Below.refl _ _))
          have B21 := hideD (beyondD B20.out hb)
          clear hb k1 Z20 B20
          go_wp2_with fail
          refine K1.out.mono ?_
          rintro x w23 ⟨⟨t6, rfl, k2⟩, hb⟩
          have K2 := hideD (k2 _ (Below.refl _ _))
          have B22 := hideD (beyondD B21.out hb)
          clear hb k2 K1 B21
          go_wp2_with fail
          refine K2.out.mono ?_
          rintro x w24 ⟨rfl, hb⟩
          go_wp2_with fail
          go_ret
          exact ⟨rfl, beyondD B22.out hb⟩
end dbmMakes
end Go.Proofs.Ytbcfaepmhlanjaa
