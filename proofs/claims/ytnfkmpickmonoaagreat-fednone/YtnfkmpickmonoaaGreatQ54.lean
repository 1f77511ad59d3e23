/-
  FedNone.
-/
import Derived.Test.YtnfkmpickmonoaaGreatQ1
import Derived.Test.YtnfkmpickmonoaaGreatQ53
namespace Go.Proofs.YtnfkmpickmonoaaGreat
open Go.RowKit Go.Shelf
set_option linter.unusedVariables false
set_option maxRecDepth 100000
attribute [local go_sem] Oper.semAt_some
theorem univ_nums : ((zoneR 1 (startR 1 2 0)).map fun c => decide (¬ c 0 < 1)) = some true := by kernel_rfl
theorem univ_zone : ∃ c, zoneR 1 (startR 1 2 0) = some c ∧ ZC 1 4 c ∧ ¬ c 0 < 1 := by
  have h := univ_nums
  cases e1 : zoneR 1 (startR 1 2 0) with
  | none => rw [e1] at h; cases h
  | some c =>
    rw [e1] at h
    simp only [Option.map_some, Option.some.injEq, decide_eq_true_eq] at h
    obtain ⟨a, b⟩ := tw_start_ok 1
    exact ⟨c, rfl, zc_of (by omega) rfl a b e1, h⟩
theorem same_bel {A : World} {f : Nat} {args : Array Value} {v : Value} (h : Calls Tryz.prog f args A fun e w' => e = .returned v ∧ w' = A) : Calls Tryz.prog f args A fun e w' => e = .returned v ∧ Below A.heap.size A w' :=
  h.mono fun e w' ⟨h1, h2⟩ => ⟨h1, by rw [h2]; exact Below.refl _ _⟩
set_option maxHeartbeats 4000000 in
theorem fedNone.walk (v : Value) (L : Rats) (w : World) (hS : RatS w v L) (wf : ∀ k, k < L.q → (Lit.int .i64 (L.n k)).wf = true ∧ (Lit.int .i64 (L.d k)).wf = true) (hby : L.q * 16 ≤ 140737488355328) :
    Calls Tryz.prog 5 #[v] w fun e w' => e = .returned (.bool true) ∧ Below w.heap.size w w' := by
  obtain ⟨ad, cap, rfl, -⟩ := hS
  generalize L.q = q at *
  clear wf hby
  obtain ⟨c, eU, zc, c0⟩ := univ_zone
  have EU := hideD eU
  have ZC' := hideD zc
  have C0 := hideD c0
  clear eU zc c0
  have HU : Hid (∀ W, Calls Tryz.prog 23 #[.int .i64 1] W fun e w' => (∃ b, e = .returned (.tuple #[.pointer (some ⟨b, 0, none⟩), .int .i64 0]) ∧ ZoneAt w' b 1 c) ∧ Below W.heap.size W w') := fun W => by
    refine (universe_any 1 W (by omega)).mono ?_
    rintro e w' ⟨hb, h⟩
    have h' : ZoneOut w' _ 1 e (zoneR 1 (startR 1 2 0)) := h
    rw [EU.out] at h'
    obtain ⟨b, -, rfl, hz⟩ := h'
    exact ⟨⟨b, rfl, hz⟩, hb⟩
  clear EU
  go_enter Tryz.func5, Tryz.ntmps5
  go_wp2_with fail
  refine (HU.out _).mono ?_
  rintro e W1 ⟨⟨b1, rfl, hz1⟩, hb1⟩
  have B1 := hideD hb1
  have Z1 := hideD hz1
  clear hb1 hz1 HU
  go_wp2_with fail
  refine (fplus_nil _ _).mono ?_
  rintro e W2 ⟨rfl, e2⟩
  have b2 : Below W1.heap.size W1 W2 := by rw [e2]; exact below_one _ _
  have B2 := hideD (B1.out.trans (b2.mono B1.out.size))
  have Z2 := hideD (Z1.out.past b2)
  clear e2 b2 B1 Z1
  go_wp2_with fail
  refine (fminus_no (.pointer none) _ 1 _ (by decide) (fun W => fits_nilF _ W)).mono ?_
  rintro e W3 ⟨rfl, b3⟩
  have B3 := hideD (B2.out.trans (b3.mono B2.out.size))
  have Z3 := hideD (Z2.out.past b3)
  clear b3 B2 Z2
  go_wp2_with fail
  refine (fmeet_no (.pointer none) _ 1 _ (by decide) (same_bel (fits_nilF _ _))).mono ?_
  rintro e W4 ⟨rfl, b4⟩
  have B4 := hideD (B3.out.trans (b4.mono B3.out.size))
  have Z4 := hideD (Z3.out.past b4)
  clear b4 B3 Z3
  go_wp2_with fail
  have HW : Hid (Calls Tryz.prog 7 #[.int .i64 1, .slice (some ⟨W4.heap.size, 0, none⟩) 1 1] (W4.alloc (.cells #[.pointer (some ⟨b1, 0, none⟩)] 41)) fun e w' => (∃ fb rs, e = .returned (.tuple #[.pointer (some ⟨fb, 0, none⟩), .int .i64 0]) ∧ FedAt w' fb 1 4 rs ∧ rs.map (·.2) = [c]) ∧ Below W4.heap.size W4 w') := by
    refine (new_any _ 1 1 1 4 [some (b1, c)] _ (by omega) rfl (by omega) ⟨fun k hk => ?_, fun z hz' => ?_⟩ (by simp [hasNil])).mono ?_
    · obtain rfl : k = 0 := by simp at hk; omega
      exact ⟨W4.heap.size, rfl, by simp [go_sem]⟩
    · simp at hz'
      subst hz'
      exact ⟨Z4.out.past (below_one W4 _), ZC'.out⟩
    · rintro e w' ⟨h, hb⟩
      have e1 : newL [some (b1, c)] = ([c], 0) := by
        have : ¬ c 0 < 1 := by have := C0.out; omega
        simp [newL, layL, layS, ysP, this]
      rw [e1] at h
      refine ⟨?_, (below_one W4 _).trans (hb.mono (by simp))⟩
      rcases h with ⟨h1, -⟩ | ⟨-, fb, zs, -, h2, h3, h4⟩
      · exact absurd rfl h1
      · exact ⟨fb, zs, h2, h3, h4⟩
  refine HW.out.mono ?_
  rintro e W5 ⟨⟨fb, rs, rfl, hF, hrs⟩, b5⟩
  have B5 := hideD (B4.out.trans (b5.mono B4.out.size))
  have F5 := hideD hF
  have RS := hideD hrs
  clear b5 hF hrs HW B4 Z4 ZC' C0
  go_wp2_with fail
  refine (fminus_no _ (.pointer none) 1 _ (by decide) (fun W => fits_nilZ _ W)).mono ?_
  rintro e W6 ⟨rfl, b6⟩
  have B6 := hideD (B5.out.trans (b6.mono B5.out.size))
  have F6 := hideD (F5.out.past b6)
  clear b6 B5 F5
  go_wp2_with fail
  have HP : Hid (Calls Tryz.prog 19 #[.pointer (some ⟨fb, 0, none⟩), .slice (some ⟨W6.heap.size, 0, none⟩) 1 1] (W6.alloc (.cells #[.pointer none] 41)) fun e w' => e = .returned (.tuple #[.pointer none, .int .i64 1]) ∧ Below W6.heap.size W6 w') := by
    have b0 := below_one W6 (.cells #[.pointer none] 41)
    refine (fplus_any fb 1 4 W6.heap.size 1 rs [none] (fun p x _ => p = .pointer none ∧ x = .int .i64 1) _ (F6.out.past b0) ⟨fun k hk => ?_, fun z hz' => by simp at hz'⟩ (by simp) (by simp) ?_).mono ?_
    · obtain rfl : k = 0 := by simp at hk; omega
      exact ⟨W6.heap.size, rfl, by simp [go_sem]⟩
    · intro W g cap hb hP
      refine (new_nil _ cap (rs.length + 1) 1 4 (rs.map some ++ [none]) W (by omega) (by simp) (by have := F6.out.len; omega) hP (hasNil_yes (by simp))).mono ?_
      rintro e w' ⟨rfl, hb⟩
      exact ⟨⟨_, _, rfl, rfl, rfl⟩, hb⟩
    · rintro e w' ⟨⟨p, x, rfl, rfl, rfl⟩, hb⟩
      exact ⟨rfl, b0.trans (hb.mono (by simp))⟩
  refine HP.out.mono ?_
  rintro e W7 ⟨rfl, b7⟩
  have B7 := hideD (B6.out.trans (b7.mono B6.out.size))
  have F7 := hideD (F6.out.past b7)
  clear b7 B6 F6 HP
  go_wp2_with fail
  refine (flive_any _).mono ?_
  rintro e W8 ⟨rfl, b8⟩
  have B8 := hideD (B7.out.trans (b8.mono B7.out.size))
  have F8 := hideD (F7.out.past b8)
  clear b8 B7 F7
  go_wp2_with fail
  refine (fdim_nil _).mono ?_
  rintro e W9 ⟨rfl, e9⟩
  obtain rfl := e9.symm
  clear e9
  go_wp2_with fail
  refine (fzones_nil _).mono ?_
  rintro e W9 ⟨rfl, e9⟩
  obtain rfl := e9.symm
  clear e9
  go_wp2_with fail
  refine (fempty_nil _).mono ?_
  rintro e W9 ⟨rfl, e9⟩
  obtain rfl := e9.symm
  clear e9
  go_wp2_with fail
  refine (fhas_nil _ _ _ _).mono ?_
  rintro e WA ⟨rfl, bA⟩
  have BA := hideD (B8.out.trans (bA.mono B8.out.size))
  clear bA B8 F8
  go_wp2_with fail
  refine (finc_no (.pointer none) _ 1 _ (by decide) (same_bel (fits_nilF _ _))).mono ?_
  rintro e WB ⟨rfl, bB⟩
  have BB := hideD (BA.out.trans (bB.mono BA.out.size))
  clear bB BA
  go_wp2_with fail
  refine (fsame_nil1 _ _).mono ?_
  rintro e WC ⟨rfl, bC⟩
  have BC := hideD (BB.out.trans (bC.mono BB.out.size))
  clear bC BB
  go_wp2_with fail
  refine (ffewer_nil _).mono ?_
  rintro e W9 ⟨rfl, e9⟩
  obtain rfl := e9.symm
  clear e9
  go_wp2_with fail
  refine (finc_no _ (.pointer none) 1 _ (by decide) (same_bel (fits_nilZ _ _))).mono ?_
  rintro e WD ⟨rfl, bD⟩
  have BD := hideD (BC.out.trans (bD.mono BC.out.size))
  clear bD BC
  go_wp2_with fail
  refine (fsame_nil2 _ _).mono ?_
  rintro e WE ⟨rfl, bE⟩
  have BE := hideD (BD.out.trans (bE.mono BD.out.size))
  clear bE BD
  go_wp2_with fail
  go_ret
  exact ⟨rfl, BE.out⟩
end Go.Proofs.YtnfkmpickmonoaaGreat
