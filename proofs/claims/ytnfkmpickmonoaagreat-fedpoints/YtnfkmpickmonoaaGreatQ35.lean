/-
  fed.Includes.
-/
import Derived.Test.YtnfkmpickmonoaaGreatQ26
import Derived.Test.YtnfkmpickmonoaaGreatQ12
import Derived.Test.YtnfkmpickmonoaaGreatQ33
import Derived.Test.YtnfkmpickmonoaaGreatQ34
import Derived.Test.YtnfkmpickmonoaaGreatQ29
namespace Go.Proofs.YtnfkmpickmonoaaGreat
open Go.RowKit Go.Shelf
set_option linter.unusedVariables false
set_option maxRecDepth 100000
attribute [local go_sem] Oper.semAt_some
/-- What is left of rows and an error without one zone more. -/
def fincS (n m : Nat) (s : List Row × Int) (d : Row) : List Row × Int := if s.2 = 0 then minusL n m s.1 d else s
def fincK (n m : Nat) (cs : List Row) (z : PZ7) (K : Nat) : List Row × Int := (cs.take K).foldl (fincS n m) (newL [z])
def fincB (n m : Nat) (cs : List Row) (z : PZ7) : Bool := decide ((fincK n m cs z cs.length).2 = 0) && decide ((fincK n m cs z cs.length).1.length = 0)
theorem fincK_next {n m K : Nat} {cs : List Row} {z : PZ7} (h : K < cs.length) : fincK n m cs z (K + 1) = fincS n m (fincK n m cs z K) cs[K] := by
  unfold fincK
  have e : cs.take (K + 1) = cs.take K ++ [cs[K]] := by
    rw [List.take_add_one, List.getElem?_eq_getElem h]
    rfl
  rw [e, List.foldl_append]
  rfl
/-- Where the rest lies, and the error. -/
def FIncAt (n m : Nat) (s : List Row × Int) (p e : Value) (W : World) : Prop :=
  (∃ fb rs, p = .pointer (some ⟨fb, 0, none⟩) ∧ e = .int .i64 0 ∧ FedAt W fb n m rs ∧ s = (rs.map (·.2), 0)) ∨ (∃ x : Int, x ≠ 0 ∧ p = .pointer none ∧ e = .int .i64 x ∧ s.2 = x)
theorem fincAt_of {H n m : Nat} {s : List Row × Int} {e : Ending} {W : World} (h : MinusOut H n m s e W) : ∃ p x, e = .returned (.tuple #[p, x]) ∧ FIncAt n m s p x W := by
  rcases h with ⟨h1, rfl⟩ | ⟨h1, fb, zs, -, rfl, h2, h3⟩
  · exact ⟨_, _, rfl, .inr ⟨_, h1, rfl, rfl, rfl⟩⟩
  · exact ⟨_, _, rfl, .inl ⟨fb, zs, rfl, rfl, h2, Prod.ext h3.symm h1⟩⟩
set_option maxHeartbeats 4000000 in
theorem finc_any (fb zb n m : Nat) (zs : List ZR) (d : Row) (w : World) (hn : n ≤ 8) (hm : m = (n + 1) * (n + 1)) (hf : FedAt w fb n m zs) (hz : ZoneAt w zb n d) (zd : ZC n m d) :
    Calls Tryz.prog 14 #[.pointer (some ⟨fb, 0, none⟩), .pointer (some ⟨zb, 0, none⟩)] w fun e w' => e = .returned (.bool (fincB n m (zs.map (·.2)) (some (zb, d)))) ∧ Below w.heap.size w w' := by
  obtain ⟨v, c1, hown⟩ := hf.c1
  obtain ⟨q, hq⟩ : ∃ q, zs.length = q := ⟨_, rfl⟩
  obtain ⟨ad, cap, rfl⟩ := own_sl hown
  rw [hq] at c1
  have HF := hideD (fits_any fb zb n n d w hf.c0 hz)
  rw [show fitE n n = 0 by simp [fitE]] at HF
  have c0 := hf.c0
  have FD := hideD hf
  have HQ := hideD hq
  have HO := hideD hown
  have HN := hideD hn
  have HM := hideD hm
  have HW : Hid (∀ W, Below w.heap.size w W → Calls Tryz.prog 7 #[.int .i64 (n : Int), .slice (some ⟨W.heap.size, 0, none⟩) 1 1] (W.alloc (.cells #[.pointer (some ⟨zb, 0, none⟩)] 41)) fun e w' => MinusOut (W.alloc (.cells #[.pointer (some ⟨zb, 0, none⟩)] 41)).heap.size n m (newL [some (zb, d)]) e w' ∧ Below (W.alloc (.cells #[.pointer (some ⟨zb, 0, none⟩)] 41)).heap.size (W.alloc (.cells #[.pointer (some ⟨zb, 0, none⟩)] 41)) w') := fun W hW =>
    new_any _ 1 1 n m [some (zb, d)] _ hn rfl (by omega) ⟨fun k hk => by
      obtain rfl : k = 0 := by simp at hk; omega
      exact ⟨W.heap.size, rfl, by simp [go_sem]⟩, fun z hz' => by
      simp at hz'
      subst hz'
      exact ⟨(hz.past hW).past (below_one W _), zd⟩⟩ (by simp [hasNil])
  have q4 : q ≤ 4096 := by rw [← hq]; exact hf.len
  clear hf hz hq hown hn hm zd
  go_enter Tryz.func14, Tryz.ntmps14
  go_wp2_with fail
  refine HF.out.mono ?_
  rintro e W1 ⟨rfl, hb⟩
  have c0 := kc _ _ hb c0
  have HC1 := hideD c1
  have B1 := hideD hb
  clear hb HF c1
  go_wp2_with fail
  refine (HW.out W1 B1.out).mono ?_
  rintro e W2 ⟨h, hb2⟩
  obtain ⟨p, x, rfl, hI⟩ := fincAt_of h
  have B2 := hideD (B1.out.trans (((below_one W1 _).trans (hb2.mono (by simp))).mono B1.out.size))
  have d1 := kc _ _ B2.out HC1.out
  have I2 := hideD hI
  clear h hb2 hI HW c0 HC1
  go_wp2_with fail
  go_loopw [30, 5, 6] (fun i p e wr => ∃ (K : Nat), K ≤ q ∧ i = .int .i64 (K : Int) ∧ Hid (FIncAt n m (fincK n m (zs.map (·.2)) (some (zb, d)) K) p e wr) ∧ Hid (Below w.heap.size w wr)) (fun i _ _ _ => q - (intOf i).toNat)
  case atStart => exact ⟨0, Nat.zero_le _, rfl, I2, B2⟩
  case round =>
    obtain ⟨K, hK, rfl, HI, HB⟩ := hrel
    have hwr := HB.out.size
    by_cases ck : K < q
    · have k0 : (K : Int) < (q : Int) := by omega
      have hlz : K < zs.length := by have := HQ.out; omega
      obtain ⟨g, cap', e1, hcell⟩ := owns_elem HO.out (by intro e; rw [e] at hlz; cases hlz)
      injection e1 with e1 e2 e3
      subst e1
      clear e3
      obtain ⟨zk, ez⟩ : ∃ zk, zs[K] = zk := ⟨_, rfl⟩
      obtain ⟨zk, ck7⟩ := zk
      have hel := kc _ _ HB.out (hcell K hlz)
      rw [ez] at hel
      simp only [pvF] at hel
      have HZK := hideD (FD.out.zones _ (List.getElem_mem hlz))
      rw [ez] at HZK
      have EN := fincK_next (n := n) (m := m) (cs := zs.map (·.2)) (z := some (zb, d)) (K := K) (by simpa using hlz)
      rw [List.getElem_map, ez] at EN
      simp only at EN
      clear hcell hlz ez
      rcases HI.out with ⟨fb', rs, rfl, rfl, hF, hS⟩ | ⟨x, hx, rfl, rfl, hS⟩
      · have HMn := hideD (callsIn_wide.1 (fminus_any fb' zk n m rs ck7 wr HN.out HM.out hF (HZK.out.1.past HB.out) HZK.out.2.1))
        have E2 : Hid (fincK n m (zs.map (·.2)) (some (zb, d)) (K + 1) = minusL n m (rs.map (·.2)) ck7) := by
          show _ = _
          rw [EN, hS]
          simp [fincS]
        clear EN hF hS HI HZK
        go_wp2_with fail
        refine HMn.out.mono ?_
        rintro e W7 ⟨h, hb⟩
        obtain ⟨p, x, rfl, hI⟩ := fincAt_of h
        have I7 : Hid (FIncAt n m (fincK n m (zs.map (·.2)) (some (zb, d)) (K + 1)) p x W7) := by
          show FIncAt _ _ _ _ _ _
          rw [E2.out]
          exact hI
        have B7 := hideD (HB.out.trans (hb.mono hwr))
        clear h hb hI HMn hel E2
        go_wp2_with fail
        go_roundw
        case rel => exact ⟨K + 1, by omega, by go_num, I7, B7⟩
        case measure => simp [intOf]; omega
      · have hx' : (x == 0) = false := by simpa using hx
        have I7 : Hid (FIncAt n m (fincK n m (zs.map (·.2)) (some (zb, d)) (K + 1)) (.pointer none) (.int .i64 x) wr) := by
          show FIncAt _ _ _ _ _ _
          rw [EN]
          refine .inr ⟨x, hx, rfl, rfl, ?_⟩
          unfold fincS
          rw [if_neg (by rw [hS]; exact hx), hS]
        clear EN hS HI HZK hx
        go_wp2_with fail
        go_roundw
        case rel => exact ⟨K + 1, by omega, by go_num, I7, HB⟩
        case measure => simp [intOf]; omega
    · have k0 : ¬ (K : Int) < (q : Int) := by omega
      have eK : (zs.map (·.2)).length = K := by rw [List.length_map, HQ.out]; omega
      have EB : Hid (fincB n m (zs.map (·.2)) (some (zb, d)) = (decide ((fincK n m (zs.map (·.2)) (some (zb, d)) K).2 = 0) && decide ((fincK n m (zs.map (·.2)) (some (zb, d)) K).1.length = 0))) := by
        show _ = _
        unfold fincB
        rw [eK]
      rcases HI.out with ⟨fb', rs, rfl, rfl, hF, hS⟩ | ⟨x, hx, rfl, rfl, hS⟩
      · have HE := hideD (fempty_any fb' n m rs wr hF)
        have E2 : Hid (fincB n m (zs.map (·.2)) (some (zb, d)) = decide (rs.length = 0)) := by
          show _ = _
          rw [EB.out, hS]
          simp
        clear hF hS HI EB eK
        go_wp2_with fail
        refine HE.out.mono ?_
        rintro e w7 ⟨rfl, e7⟩
        obtain rfl := e7.symm
        clear HE e7
        generalize decide (rs.length = 0) = tt at *
        go_wp2_with fail
        go_ret
        exact ⟨by rw [E2.out]; rfl, HB.out⟩
      · have hx' : (x == 0) = false := by simpa using hx
        have E2 : Hid (fincB n m (zs.map (·.2)) (some (zb, d)) = false) := by
          show _ = _
          rw [EB.out, decide_eq_false (by rw [hS]; exact hx)]
          rfl
        clear hS HI EB eK hx
        go_wp2_with fail
        go_ret
        exact ⟨by rw [E2.out]; rfl, HB.out⟩
end Go.Proofs.YtnfkmpickmonoaaGreat

/-
  fed: the law's live.
-/
namespace Go.Proofs.YtnfkmpickmonoaaGreat
open Go.RowKit Go.Shelf
set_option linter.unusedVariables false
set_option maxRecDepth 100000
attribute [local go_sem] Oper.semAt_some
def LA7 : Lims := ⟨1, fun _ => 1, fun _ => 0, fun _ => 21⟩
def LB7 : Lims := ⟨2, fun k => if k = 0 then 1 else 0, fun k => if k = 0 then 0 else 1, fun k => if k = 0 then 11 else -5⟩
def rA7 : Mat := tlAll LA7 1 (startR 1 2 0)
def rB7 : Mat := tlAll LB7 2 (startR 1 2 0)
def numsOf (c d : Row) : Bool :=
  decide (¬ c 0 < 1) && decide ((minusL 1 4 [c] d).2 = 0) && decide ((minusL 1 4 [c] d).1.length = 2) && fincB 1 4 [c] (some (0, d)) && !fincB 1 4 (minusL 1 4 [c] d).1 (some (0, d))
theorem live_nums : ((zoneR 1 rA7).bind fun c => (zoneR 1 rB7).map fun d => numsOf c d) = some true := by kernel_rfl
theorem tw_start {n i j : Nat} (hi : i ≤ n) (hj : j ≤ n) : startR n (n + 1) 0 i j = startV i j := by
  unfold startR
  rw [if_pos (.inl ⟨by omega, hj⟩)]
theorem tw_start_ok (n : Nat) : Ok n (startR n (n + 1) 0) ∧ ∀ j, j ≤ n → startR n (n + 1) 0 0 j ≤ 1 := by
  refine ⟨⟨fun i j hi hj => by rw [tw_start hi hj]; exact startV_fin i j, fun i hi => ?_⟩, fun j hj => ?_⟩
  · rw [tw_start hi hi]; unfold startV; rw [if_neg (by omega)]; omega
  · rw [tw_start (by omega) hj]; unfold startV; rw [if_neg (by omega)]; omega
theorem tg_ok {n i j : Nat} {r : Mat} {x : Int} (h : Ok n r) (h0 : ∀ j, j ≤ n → r 0 j ≤ 1) (hx : rightB x = true) : Ok n (tg r i j x) ∧ ∀ k, k ≤ n → tg r i j x 0 k ≤ 1 := by
  have hb : x = 2147483647 ∨ (-536870912 ≤ x ∧ x ≤ 536870913) := by
    unfold rightB at hx
    have := of_decide_eq_true hx
    omega
  unfold tg
  split
  · exact ⟨h, h0⟩
  · rename_i ne
    refine ⟨⟨fun a b ha hb' => ?_, fun a ha => ?_⟩, fun b hb' => ?_⟩
    · unfold upd
      split
      · rename_i e
        obtain ⟨rfl, rfl⟩ := e
        have := h.fin a b ha hb'
        unfold Fin' Kb at *
        unfold opn at *
        omega
      · exact h.fin a b ha hb'
    · unfold upd
      split
      · rename_i e
        obtain ⟨rfl, rfl⟩ := e
        have := h.diag a ha
        omega
      · exact h.diag a ha
    · unfold upd
      split
      · rename_i e
        obtain ⟨rfl, rfl⟩ := e
        have := h0 b hb'
        omega
      · exact h0 b hb'
theorem okAll_at {n : Nat} {L : Lims} {k : Nat} (h : okAll n L (k + 1) = true) : okAll n L k = true ∧ rightB (L.b k) = true := by
  have h1 : (okAll n L k && okL n L k) = true := h
  obtain ⟨h2, h3⟩ := Bool.and_eq_true_iff.1 h1
  unfold okL at h3
  exact ⟨h2, (Bool.and_eq_true_iff.1 h3).2⟩
theorem tlAll_ok {n : Nat} {L : Lims} : ∀ K, okAll n L K = true → Ok n (tlAll L K (startR n (n + 1) 0)) ∧ ∀ j, j ≤ n → tlAll L K (startR n (n + 1) 0) 0 j ≤ 1
  | 0, _ => tw_start_ok n
  | K + 1, h => by
    obtain ⟨h1, h2⟩ := okAll_at h
    obtain ⟨a, b⟩ := tlAll_ok K h1
    exact tg_ok a b h2
theorem la_zc {c : Row} (h : zoneR 1 rA7 = some c) : ZC 1 4 c := by
  obtain ⟨a, b⟩ := tlAll_ok (n := 1) (L := LA7) 1 (by kernel_rfl)
  exact zc_of (by omega) rfl a b h
theorem lb_zc {c : Row} (h : zoneR 1 rB7 = some c) : ZC 1 4 c := by
  obtain ⟨a, b⟩ := tlAll_ok (n := 1) (L := LB7) 2 (by kernel_rfl)
  exact zc_of (by omega) rfl a b h
theorem live_zones : ∃ c d, zoneR 1 rA7 = some c ∧ zoneR 1 rB7 = some d ∧ numsOf c d = true := by
  have h := live_nums
  cases e1 : zoneR 1 rA7 with
  | none => rw [e1] at h; cases h
  | some c =>
    rw [e1] at h
    cases e2 : zoneR 1 rB7 with
    | none => rw [e2] at h; cases h
    | some d =>
      rw [e2] at h
      simp only [Option.bind_some, Option.map_some, Option.some.injEq] at h
      exact ⟨c, d, rfl, rfl, h⟩
set_option maxHeartbeats 4000000 in
theorem flive_any (w : World) : Calls Tryz.prog 11 #[] w fun e w' => e = .returned (.bool true) ∧ Below w.heap.size w w' := by
  obtain ⟨c, d, e1, e2, hn⟩ := live_zones
  simp only [numsOf, Bool.and_eq_true, decide_eq_true_eq, Bool.not_eq_true'] at hn
  obtain ⟨⟨⟨⟨n1, n2⟩, n3⟩, n4⟩, n5⟩ := hn
  have zc := la_zc e1
  have zd := lb_zc e2
  have H1 : Hid (∀ W, Calls Tryz.prog 44 #[.int .i64 1, .slice (some ⟨W.heap.size, 0, none⟩) 1 1] (W.alloc (.cells #[.int .i64 1, .int .i64 0, .int .i32 21] 90)) fun e w' => (∃ b, e = .returned (.tuple #[.pointer (some ⟨b, 0, none⟩), .int .i64 0]) ∧ ZoneAt w' b 1 c) ∧ Below W.heap.size W w') := fun W => by
    refine (limits_main 1 W.heap.size 0 1 LA7 _ (by omega) (fun k hk => ?_) (by simp) (fun k _ => by show (-2147483648 : Int) ≤ 21 ∧ (21 : Int) ≤ 2147483647; decide) (by show 1 ≤ _; omega)).mono ?_
    · obtain rfl : k = 0 := by have : k < 1 := hk; omega
      exact ⟨by simp [go_sem, LA7], by simp [go_sem, LA7], by simp [go_sem, LA7]⟩
    · rintro e w' ⟨hb, ⟨h, -⟩ | ⟨-, h⟩⟩
      · cases h
      · have h' : ZoneOut w' _ 1 e (zoneR 1 rA7) := h
        rw [e1] at h'
        obtain ⟨b, -, rfl, hz⟩ := h'
        exact ⟨⟨b, rfl, hz⟩, (below_one W _).trans (hb.mono (by simp))⟩
  have H2 : Hid (∀ W, Calls Tryz.prog 44 #[.int .i64 1, .slice (some ⟨W.heap.size, 0, none⟩) 2 2] (W.alloc (.cells #[.int .i64 1, .int .i64 0, .int .i32 11, .int .i64 0, .int .i64 1, .int .i32 (-5)] 90)) fun e w' => (∃ b, e = .returned (.tuple #[.pointer (some ⟨b, 0, none⟩), .int .i64 0]) ∧ ZoneAt w' b 1 d) ∧ Below W.heap.size W w') := fun W => by
    refine (limits_main 1 W.heap.size 0 2 LB7 _ (by omega) (fun k hk => ?_) (by simp) (fun k _ => by show (-2147483648 : Int) ≤ (if k = 0 then 11 else -5) ∧ (if k = 0 then (11 : Int) else -5) ≤ 2147483647; split <;> decide) (by show 2 ≤ _; omega)).mono ?_
    · have hk' : k < 2 := hk
      obtain rfl | rfl : k = 0 ∨ k = 1 := by omega
      · exact ⟨by simp [go_sem, LB7], by simp [go_sem, LB7], by simp [go_sem, LB7]⟩
      · exact ⟨by simp [go_sem, LB7], by simp [go_sem, LB7], by simp [go_sem, LB7]⟩
    · rintro e w' ⟨hb, ⟨h, -⟩ | ⟨-, h⟩⟩
      · cases h
      · have h' : ZoneOut w' _ 1 e (zoneR 1 rB7) := h
        rw [e2] at h'
        obtain ⟨b, -, rfl, hz⟩ := h'
        exact ⟨⟨b, rfl, hz⟩, (below_one W _).trans (hb.mono (by simp))⟩
  have ZC' := hideD zc
  have ZD' := hideD zd
  have N1 := hideD n1
  have N2 := hideD n2
  have N3 := hideD n3
  have N4 := hideD n4
  have N5 := hideD n5
  clear zc zd n1 n2 n3 n4 n5 e1 e2
  go_enter Tryz.func11, Tryz.ntmps11
  go_wp2_with fail
  refine (H1.out _).mono ?_
  rintro e W1 ⟨⟨b1, rfl, hz1⟩, hb1⟩
  have B1 := hideD hb1
  have Z1 := hideD hz1
  clear hb1 hz1 H1
  go_wp2_with fail
  refine (H2.out _).mono ?_
  rintro e W2 ⟨⟨b2, rfl, hz2⟩, hb2⟩
  have Z1 := hideD (Z1.out.past hb2)
  have B2 := hideD (B1.out.trans (hb2.mono B1.out.size))
  have Z2 := hideD hz2
  clear hb2 hz2 H2
  go_wp2_with fail
  have HW : Hid (Calls Tryz.prog 7 #[.int .i64 1, .slice (some ⟨W2.heap.size, 0, none⟩) 1 1] (W2.alloc (.cells #[.pointer (some ⟨b1, 0, none⟩)] 41)) fun e w' => (∃ fb rs, e = .returned (.tuple #[.pointer (some ⟨fb, 0, none⟩), .int .i64 0]) ∧ FedAt w' fb 1 4 rs ∧ rs.map (·.2) = [c]) ∧ Below W2.heap.size W2 w') := by
    refine (new_any _ 1 1 1 4 [some (b1, c)] _ (by omega) rfl (by omega) ⟨fun k hk => ?_, fun z hz' => ?_⟩ (by simp [hasNil])).mono ?_
    · obtain rfl : k = 0 := by simp at hk; omega
      exact ⟨W2.heap.size, rfl, by simp [go_sem]⟩
    · simp at hz'
      subst hz'
      exact ⟨Z1.out.past (below_one W2 _), ZC'.out⟩
    · rintro e w' ⟨h, hb⟩
      have e1 : newL [some (b1, c)] = ([c], 0) := by
        have : ¬ c 0 < 1 := by have := N1.out; omega
        simp [newL, layL, layS, ysP, this]
      rw [e1] at h
      refine ⟨?_, (below_one W2 _).trans (hb.mono (by simp))⟩
      rcases h with ⟨h1, -⟩ | ⟨-, fb, zs, -, h2, h3, h4⟩
      · exact absurd rfl h1
      · exact ⟨fb, zs, h2, h3, h4⟩
  refine HW.out.mono ?_
  rintro e W3 ⟨⟨fb, rs, rfl, hF, hrs⟩, hb3⟩
  have Z2 := hideD (Z2.out.past hb3)
  have B3 := hideD (B2.out.trans (hb3.mono B2.out.size))
  have F3 := hideD hF
  have RS := hideD hrs
  clear hb3 hF hrs HW Z1 B1 B2
  go_wp2_with fail
  have HMi : Hid (Calls Tryz.prog 21 #[.pointer (some ⟨fb, 0, none⟩), .pointer (some ⟨b2, 0, none⟩)] W3 fun e w' => (∃ f2 rs2, e = .returned (.tuple #[.pointer (some ⟨f2, 0, none⟩), .int .i64 0]) ∧ FedAt w' f2 1 4 rs2 ∧ rs2.map (·.2) = (minusL 1 4 [c] d).1) ∧ Below W3.heap.size W3 w') := by
    refine (callsIn_wide.1 (fminus_any fb b2 1 4 rs d W3 (by omega) rfl F3.out Z2.out ZD'.out)).mono ?_
    rintro e w' ⟨h, hb⟩
    rw [RS.out] at h
    refine ⟨?_, hb⟩
    rcases h with ⟨h1, -⟩ | ⟨-, fb, zs, -, h2, h3, h4⟩
    · exact absurd N2.out h1
    · exact ⟨fb, zs, h2, h3, h4⟩
  refine HMi.out.mono ?_
  rintro e W4 ⟨⟨f2, rs2, rfl, hF, hrs⟩, hb4⟩
  have Z2 := hideD (Z2.out.past hb4)
  have B4 := hideD (B3.out.trans (hb4.mono B3.out.size))
  have F3 := hideD (F3.out.past hb4)
  have F4 := hideD hF
  have RS2 := hideD hrs
  have L2 : Hid (rs2.length = 2) := by
    show _ = _
    rw [← N3.out, ← hrs]
    simp
  clear hb4 hF hrs HMi B3
  go_wp2_with fail
  refine (fzones_any f2 1 4 rs2 W4 F4.out).mono ?_
  rintro e W5 ⟨⟨v, rfl, hown⟩, hb5⟩
  have Z2 := hideD (Z2.out.past hb5)
  have B5 := hideD (B4.out.trans (hb5.mono B4.out.size))
  have F3 := hideD (F3.out.past hb5)
  have F5 := hideD (F4.out.past hb5)
  rw [L2.out] at hown
  obtain ⟨ad, cap, rfl⟩ := own_sl hown
  clear hown hb5 B4 F4
  go_wp2_with fail
  have HI1 : Hid (Calls Tryz.prog 14 #[.pointer (some ⟨fb, 0, none⟩), .pointer (some ⟨b2, 0, none⟩)] W5 fun e w' => e = .returned (.bool true) ∧ Below W5.heap.size W5 w') := by
    have h := finc_any fb b2 1 4 rs d W5 (by omega) rfl F3.out Z2.out ZD'.out
    rw [RS.out, show fincB 1 4 [c] (some (b2, d)) = true from N4.out] at h
    exact h
  refine HI1.out.mono ?_
  rintro e W6 ⟨rfl, hb6⟩
  have Z2 := hideD (Z2.out.past hb6)
  have B6 := hideD (B5.out.trans (hb6.mono B5.out.size))
  have F6 := hideD (F5.out.past hb6)
  clear hb6 HI1 B5 F5 F3
  go_wp2_with fail
  have HI2 : Hid (Calls Tryz.prog 14 #[.pointer (some ⟨f2, 0, none⟩), .pointer (some ⟨b2, 0, none⟩)] W6 fun e w' => e = .returned (.bool false) ∧ Below W6.heap.size W6 w') := by
    have h := finc_any f2 b2 1 4 rs2 d W6 (by omega) rfl F6.out Z2.out ZD'.out
    rw [RS2.out, show fincB 1 4 (minusL 1 4 [c] d).1 (some (b2, d)) = false from N5.out] at h
    exact h
  refine HI2.out.mono ?_
  rintro e W7 ⟨rfl, hb7⟩
  have B7 := hideD (B6.out.trans (hb7.mono B6.out.size))
  have c0 := (F6.out.past hb7).c0
  clear hb7 HI2 B6 F6 Z2
  go_wp2_with fail
  refine (fdim_any f2 1 W7 c0).mono ?_
  rintro e W8 ⟨rfl, e8⟩
  obtain rfl := e8.symm
  clear e8
  go_wp2_with fail
  go_ret
  exact ⟨rfl, B7.out⟩
end Go.Proofs.YtnfkmpickmonoaaGreat

/-
  fed: unions by both, nil or not; what both say of Minus, Meet, Plus, Fewer.
-/
namespace Go.Proofs.YtnfkmpickmonoaaGreat
open Go.RowKit Go.Shelf
set_option linter.unusedVariables false
set_option maxRecDepth 100000
attribute [local go_sem] Oper.semAt_some
/-- The zones of a union, or nil. -/
abbrev U7 := Option (List Row)
def PF7 (N m : Nat) (W : World) (p : Option Addr) : U7 → Prop
  | none => p = none
  | some cs => ∃ fb zs, p = some ⟨fb, 0, none⟩ ∧ FedAt W fb N m zs ∧ zs.map (·.2) = cs
def RF7 (N m : Nat) (W : World) (p : Option Addr) : U7 → Prop
  | none => p = none
  | some cs => ∃ fb rs, p = some ⟨fb, 0, none⟩ ∧ RFedAt W fb N m rs ∧ rs.map (·.2) = cs.map (fun c => listOf c m)
theorem PF7.past {N m : Nat} {A B : World} {p : Option Addr} {u : U7} (h : PF7 N m A p u) (hb : Below A.heap.size A B) : PF7 N m B p u := by
  cases u with
  | none => exact h
  | some cs =>
    obtain ⟨fb, zs, h1, h2, h3⟩ := h
    exact ⟨fb, zs, h1, h2.past hb, h3⟩
def SayF (N m : Nat) (w : World) (f : Nat) (args : Array Value) (k : Int) (u : U7) : Prop := ∀ w', Below w.heap.size w w' → Calls Tryz.prog f args w' fun e w'' => (∃ p, e = .returned (.tuple #[.pointer p, .int .i64 k]) ∧ Hid (PF7 N m w'' p u)) ∧ Hid (Below w'.heap.size w' w'')
def SayG (N m : Nat) (w : World) (f : Nat) (args : Array Value) (k : Int) (u : U7) : Prop := ∀ w', Below w.heap.size w w' → Calls Tryz.prog f args w' fun e w'' => (∃ p, e = .returned (.tuple #[.pointer p, .int .i64 k]) ∧ Hid (RF7 N m w'' p u)) ∧ Hid (Below w'.heap.size w' w'')
theorem fed_zcs {W : World} {fb N m : Nat} {zs : List ZR} (h : FedAt W fb N m zs) : ZCs N m (zs.map (·.2)) := fun c hc => by
  obtain ⟨e, he, rfl⟩ := List.mem_map.1 hc
  exact (h.zones e he).2
/-- What is known of the numbers, where there is a union. -/
def Fits7 (N m : Nat) (u : U7) (o : OZ7) : Prop := N ≤ 8 ∧ m = (N + 1) * (N + 1) ∧ (u ≠ none → ∀ M c, o = some (M, c) → M = N)
end Go.Proofs.YtnfkmpickmonoaaGreat
