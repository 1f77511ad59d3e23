/-
  The walk of FedPoints.
-/
import Derived.OrdersHeld
import Derived.Deep.RegionHeld
import Derived.Test.YtnfkmpickmonoaaGreatQ35
import Derived.Test.YtnfkmpickmonoaaGreatQ31
import Derived.Test.YtnfkmpickmonoaaGreatQ36
import Derived.Test.YtnfkmpickmonoaaGreatQ37
import Derived.Test.YtnfkmpickmonoaaGreatQ50
import Derived.Test.YtnfkmpickmonoaaGreatQ51
namespace Go.Proofs.YtnfkmpickmonoaaGreat
open Go.RowKit Go.Shelf
set_option linter.unusedVariables false
set_option maxRecDepth 100000
attribute [local go_sem] Oper.semAt_some
theorem bel_outP {w A C : World} (h : Below w.heap.size w A) (hb : Below A.heap.size A C) : Below w.heap.size w C := h.trans (hb.mono h.size)
theorem has7 {N m : Nat} {W : World} {fb : Nat} {zs : List ZR} {cs : List Row} {ad : Option Addr} {q cap : Nat} {L : Rats} (hn : N ≤ 8) (hm : m = (N + 1) * (N + 1)) (hf : FedAt W fb N m zs) (hcs : zs.map (·.2) = cs) (hq : L.q = q) (q1 : q ≤ 9223372036854775807) (hnil : ad = none → q = 0 ∧ cap = 0) (hV : RatV W ad L) (hI : RatI L) (t : Bool) (ht : (cs.any fun c => inB N m c L) = t) :
    Calls Tryz.prog 12 #[.pointer (some ⟨fb, 0, none⟩), .slice ad q cap] W fun e w' => e = .returned (.bool t) ∧ Below W.heap.size W w' := by
  have e : (zs.any fun z => inB N m z.2 L) = t := by
    rw [← ht, ← hcs, List.any_map]
    rfl
  rw [← e]
  exact fhas_any fb N m zs ad q cap (fun z => inB N m z.2 L) W hf fun z hz Y hY => inP_any z.1 N m q cap ad z.2 L Y hn hm ((hf.zones z hz).1.past hY) hq q1 hnil (hV.later hY) hI
theorem two_of7b (n : Int) (v : Value) (l : List Int) (w : World) (hS : SliceAt w v l) (hi : ∀ j, j < l.length → -2147483648 ≤ l.getD j 0 ∧ l.getD j 0 ≤ 2147483647) (hby : l.length ≤ 9223372036854775807) :
    ∃ k o, SayP7 w 9 #[.int .i64 n, v] k o ∧ SayR7 w 10 #[.int .i64 n, v] k o ∧ ZCo7 o ∧ (∀ N c, o = some (N, c) → n = (N : Int)) ∧ (k = 0 → o ≠ none) := by
  have err : ∀ k, k ≠ 0 → (∀ w', Below w.heap.size w w' → Calls Tryz.prog 9 #[.int .i64 n, v] w' fun x w'' => x = errOf k ∧ Below w'.heap.size w' w'') → (∀ w', Below w.heap.size w w' → Calls Tryz.prog 10 #[.int .i64 n, v] w' fun x w'' => x = errOf k ∧ Below w'.heap.size w' w'') →
      ∃ k o, SayP7 w 9 #[.int .i64 n, v] k o ∧ SayR7 w 10 #[.int .i64 n, v] k o ∧ ZCo7 o ∧ (∀ N c, o = some (N, c) → n = (N : Int)) ∧ (k = 0 → o ≠ none) := fun k hk h1 h2 =>
    ⟨k, none, fun w' hb => (h1 w' hb).mono fun e w'' ⟨he, hb'⟩ => ⟨⟨none, he, rfl⟩, hb'⟩, fun w' hb => (h2 w' hb).mono fun e w'' ⟨he, hb'⟩ => ⟨⟨none, he, rfl⟩, hb'⟩, zco_none7, fun N c h => (by cases h), fun h => absurd h hk⟩
  by_cases hn : 0 ≤ n ∧ n ≤ 8
  · obtain ⟨N, rfl⟩ := Int.eq_ofNat_of_zero_le hn.1
    have N8 : N ≤ 8 := by omega
    have mp : 0 < (N + 1) * (N + 1) := Nat.mul_pos (by omega) (by omega)
    by_cases hl : l.length = (N + 1) * (N + 1)
    · rcases hS with ⟨ad, c, rfl, rfl⟩ | ⟨cb, off, cap, rfl, hc⟩
      · exfalso
        simp at hl
      · have hcb : cb < w.heap.size := World.block_lt_of_cell? _ _ (hc 0 (by omega))
        have row : ∀ w', Below w.heap.size w w' → RowAt w' cb off l := fun w' hb j hj => (hb.cell (p := ⟨cb, off + j, none⟩) hcb).trans (hc j hj)
        have P := fun w' hb => of_main N cb off cap l w' N8 hl (row w' hb) hi
        have R := fun w' hb => rof_main N cb off cap l w' N8 hl (row w' hb) hi
        cases ha : allRight l l.length
        · refine err 7 (by decide) (fun w' hb => (P w' hb).mono fun x w'' h => ?_) (fun w' hb => (R w' hb).mono fun x w'' h => ?_)
          · obtain ⟨h1, ⟨-, h2⟩ | ⟨h2, -⟩⟩ := h
            · exact ⟨h2, h1⟩
            · rw [ha] at h2; cases h2
          · obtain ⟨h1, ⟨-, h2⟩ | ⟨h2, -⟩⟩ := h
            · exact ⟨h2, h1⟩
            · rw [ha] at h2; cases h2
        · have os := of_same N l hl (fun j hj => (hi j (by omega)).2)
          cases hz : zoneR N (tgAll N l l.length (startR N (N + 1) 0)) with
          | none =>
            rw [hz] at os
            refine err 10 (by decide) (fun w' hb => (P w' hb).mono fun x w'' h => ?_) (fun w' hb => (R w' hb).mono fun x w'' h => ?_)
            · obtain ⟨h1, ⟨h2, -⟩ | ⟨-, h2⟩⟩ := h
              · rw [ha] at h2; cases h2
              · rw [hz] at h2; exact ⟨h2, h1⟩
            · obtain ⟨h1, ⟨h2, -⟩ | ⟨-, h2⟩⟩ := h
              · rw [ha] at h2; cases h2
              · rw [os] at h2; exact ⟨h2, h1⟩
          | some c =>
            rw [hz] at os
            refine ⟨0, some (N, c), fun w' hb => (P w' hb).mono fun x w'' h => ?_, fun w' hb => (R w' hb).mono fun x w'' h => ?_, fun N' c' h => ?_, fun N' c' h => ?_, fun _ h => (by cases h)⟩
            · obtain ⟨h1, ⟨h2, -⟩ | ⟨-, h2⟩⟩ := h
              · rw [ha] at h2; cases h2
              · rw [hz] at h2
                obtain ⟨b, -, h3, h4⟩ := h2
                exact ⟨⟨_, h3, N8, zoneR_32 hz, b, rfl, h4⟩, h1⟩
            · obtain ⟨h1, ⟨h2, -⟩ | ⟨-, h2⟩⟩ := h
              · rw [ha] at h2; cases h2
              · rw [os] at h2
                obtain ⟨b, h3, h4⟩ := h2
                exact ⟨⟨_, h3, N8, b, _, rfl, h4⟩, h1⟩
            · cases h
              rw [hl] at hz ha
              exact zc_drf N8 rfl (right_of_all7 ha) hz
            · cases h
              rfl
    · obtain ⟨ad, cap, rfl⟩ : ∃ ad cap, v = .slice ad l.length cap := by
        rcases hS with ⟨ad, c, rfl, rfl⟩ | ⟨cb, off, cap, rfl, hc⟩
        · exact ⟨ad, c, rfl⟩
        · exact ⟨_, cap, rfl⟩
      exact err 6 (by decide) (fun w' hb => of_long N l.length cap ad w' N8 hl hby) (fun w' hb => same_w7 (rof_long N l.length cap _ ad w' N8 rfl hl))
  · exact err 12 (by decide) (fun w' hb => same_w7 (of_clock n v w' hn)) (fun w' hb => same_w7 (rof_clock n v w' hn))
set_option maxHeartbeats 16000000 in
theorem fedPoints.walk (n : Int) (hn : (Lit.int .i64 n).wf = true) (ad : Option Addr) (len cap : Nat) (nl : Bool) (V : Nat → Value) (L : Nat → List Int) (v : Value) (l : List Int) (vr : Value) (LR : Rats) (w : World) (hB : Bss w ad len V L) (hS : SliceAt w v l) (wf : ∀ z ∈ l, (Lit.int .i32 z).wf = true) (hby : l.length ≤ 9223372036854775807)
    (hR : RatS w vr LR) (wfr : ∀ k, k < LR.q → (Lit.int .i64 (LR.n k)).wf = true ∧ (Lit.int .i64 (LR.d k)).wf = true) (hbr : LR.q ≤ 9223372036854775807) :
    Calls Tryz.prog 4 #[.int .i64 n, .agg #[.slice ad len cap, .bool nl], .agg #[v, vr]] w fun e w' => e = .returned (.bool true) ∧ Below w.heap.size w w' := by
  obtain ⟨ra, rc, rfl, rn, rv⟩ := hR
  obtain ⟨va, vq, vc, rfl⟩ : ∃ va vq vc, v = .slice va vq vc := by
    rcases hS with ⟨a, c, rfl, -⟩ | ⟨b, off, c, rfl, -⟩
    · exact ⟨_, _, _, rfl⟩
    · exact ⟨_, _, _, rfl⟩
  obtain ⟨q, hq⟩ : ∃ q, LR.q = q := ⟨_, rfl⟩
  have HI : Hid (RatI LR) := fun k hk => ⟨bounds_i64 (wfr k hk).1, bounds_i64 (wfr k hk).2⟩
  have HRV := hideD rv
  have HQ := hideD hq
  rw [hq] at hbr rn ⊢
  have HB := hideD (fun W (h : Below w.heap.size w W) => both7_any n ad len cap nl V L W (fun k hk => by
    obtain ⟨b, off, h1, h2, h3, h4⟩ := hB k hk
    exact ⟨b, off, h1, kc _ _ h h2, h3.past7 h, h4⟩))
  have HL : Hid (∀ w : World, Calls Tryz.prog 11 #[] w fun e w' => e = .returned (.bool true) ∧ Below w.heap.size w w') := flive_any
  have HS := hideD (fun W (h : Below w.heap.size w W) => two_of7b n (.slice va vq vc) l W (hS.past7 h) (wf_cells7 wf) (by omega))
  have RN := hideD rn
  clear hB hn hS wf hby wfr rv hq rn
  obtain ⟨W0, hW0⟩ : ∃ W0, W0 = (w.alloc (.cells #[.slice ad len cap, .bool nl] 24)).alloc (.cells #[.slice va vq vc, .slice ra q rc] 29) := ⟨_, rfl⟩
  have B0 : Hid (Below w.heap.size w W0) := by rw [hW0]; exact ((Below.refl _ _).alloc (Nat.le_refl _) _).alloc (by simp) _
  have y0 : W0.cell? ⟨w.heap.size + 1, 0, none⟩ = some (.slice va vq vc) := by rw [hW0]; simp [go_sem]
  have y1 : W0.cell? ⟨w.heap.size + 1, 1, none⟩ = some (.slice ra q rc) := by rw [hW0]; simp [go_sem]
  go_enter Tryz.func4, Tryz.ntmps4
  go_wp2_with fail
  rw [← hW0]
  clear hW0
  refine (HB.out W0 B0.out).mono ?_
  rintro e W1 ⟨⟨es, pa, pb, rfl, hl, h7⟩, hb⟩
  have BW := hideD (bel_outP B0.out hb)
  have y0 := kc _ _ hb y0
  have y1 := kc _ _ hb y1
  obtain ⟨N, m, k1, u, hF, huN, hlen, hk1, sp, -⟩ := news7c h7 hl
  have FN := hideD hF
  have UN := hideD huN
  have LEN := hideD hlen
  have KU := hideD hk1
  have SP := hideD sp
  have B1 : Hid (Below W1.heap.size W1 W1) := Below.refl _ _
  obtain ⟨k0, o, op, -, zc, hM, hk0⟩ := HS.out W1 BW.out
  have OP := hideD op
  have ZCO := hideD zc
  have MO := hideD hM
  have KO := hideD hk0
  clear hb h7 hl hF huN hlen hk1 sp HB B0 op zc hM hk0 HS
  go_wp2_with fail
  refine (SP.out _ B1.out).mono ?_
  rintro e W2 ⟨⟨p, rfl, hp⟩, hb⟩
  have BW := hideD (bel_outP BW.out hb.out)
  have B1 := hideD (bel_outP B1.out hb.out)
  have y0 := kc _ _ hb.out y0
  have y1 := kc _ _ hb.out y1
  have HP := hideD hp.out
  clear hb hp SP
  go_wp2_with fail
  refine (OP.out _ B1.out).mono ?_
  rintro e W3 ⟨⟨zp, rfl, hz⟩, hb⟩
  have BW := hideD (bel_outP BW.out hb.out)
  have y1 := kc _ _ hb.out y1
  have HP := hideD (HP.out.past hb.out)
  have HZ := hideD hz.out
  clear hb hz OP B1 y0
  by_cases e1 : k1 = 0
  · by_cases e2 : k0 = 0
    · have n1 := KU.out e1
      have n2 := KO.out e2
      subst e1 e2
      cases u with
      | none => exact absurd rfl n1
      | some cs =>
        cases o with
        | none => exact absurd rfl n2
        | some x =>
          obtain ⟨M, d⟩ := x
          obtain rfl : M = N := by
            have a := MO.out M d rfl
            have b := UN.out (by simp)
            omega
          obtain ⟨N8, hm, -⟩ := FN.out
          obtain ⟨fb, zs, rfl, h2, h3⟩ := HP.out
          obtain ⟨-, -, zb, rfl, hz⟩ := HZ.out
          have zd := ZCO.out M d rfl
          rw [← hm] at zd
          have zcs := fed_zcs h2
          rw [h3] at zcs
          have PT := pts7 LR N8 hm zcs zd
          have ME := hideD (minus_err N8 hm zd zcs)
          have HU := hideD (And.intro h2 h3)
          have ZZ := hideD hz
          have ZD := hideD zd
          have HN := hideD N8
          have HM := hideD hm
          have cl := LEN.out cs rfl
          have HLZ : Hid (zs.length ≤ 300) := by
            show _ ≤ _
            have := congrArg List.length h3
            rw [List.length_map] at this
            omega
          obtain ⟨tI, hI⟩ : ∃ t, (cs.any fun c => inB M m c LR) = t := ⟨_, rfl⟩
          obtain ⟨tO, hO⟩ : ∃ t, inB M m d LR = t := ⟨_, rfl⟩
          have pl := PT.plus
          have pf := PT.few
          have pm := PT.minus
          have pe := PT.meet
          rw [hI, hO] at pl pm pe
          rw [hI] at pf
          have PL := hideD pl
          have PF := hideD pf
          have PM := hideD pm
          have PE := hideD pe
          have TI := hideD hI
          have TO := hideD hO
          have H1 : Hid (∀ X, Below W3.heap.size W3 X → Calls Tryz.prog 12 #[.pointer (some ⟨fb, 0, none⟩), .slice ra q rc] X fun e w' => e = .returned (.bool tI) ∧ Below X.heap.size X w') := fun X hX => has7 HN.out HM.out (HU.out.1.past hX) HU.out.2 HQ.out (by omega) RN.out (HRV.out.later (bel_outP BW.out hX)) HI.out tI TI.out
          have H2 : Hid (∀ X, Below W3.heap.size W3 X → Calls Tryz.prog 18 #[.pointer (some ⟨zb, 0, none⟩), .slice ra q rc] X fun e w' => e = .returned (.bool tO) ∧ Below X.heap.size X w') := fun X hX => by
            rw [← TO.out]
            exact inP_any zb M m q rc ra d LR X HN.out HM.out (ZZ.out.past hX) HQ.out (by omega) RN.out (HRV.out.later (bel_outP BW.out hX)) HI.out
          have D0 := hideD ((Below.refl W3.heap.size W3).drew)
          clear FN UN LEN KU MO KO ZCO HP HZ PT pl pf pm pe hI hO h2 h3 hz zd zcs N8 hm n1 n2 cl
          go_wp2_with fail
          refine wp_region_held (S := fun w' => w'.cell? ⟨w.heap.size + 1, 1, none⟩ = some (.slice ra q rc) ∧ True) (by kernel_rfl) ?_
          have hHeld : W3.drew.cell? ⟨w.heap.size + 1, 1, none⟩ = some (.slice ra q rc) ∧ True := ⟨y1, trivial⟩
          refine wpAnyH_take (i := 0) (oi := ⟨_, _, _, _, _, _⟩) (v := ?_) rfl (by kernel_rfl) (by kernel_rfl) (by kernel_rfl) (fun _ _ _ h => h) (Or.inl ⟨by rfl, ?_⟩) (by assumption) ?_
          rotate_left
          · intro w hs1; (try dsimp only at hs1); obtain ⟨s0, -⟩ := hs1; first | (go_simp; done) | (go_simp; with_reducible rfl)
          try simp only [Act.put, List.setIfInBounds_toArray, List.set_cons_zero, List.set_cons_succ]
          refine wpAnyH_take (i := 1) (oi := ⟨_, _, _, _, _, _⟩) (v := ?_) rfl (by kernel_rfl) (by kernel_rfl) (by kernel_rfl) (fun _ _ _ h => h) (Or.inl ⟨by rfl, ?_⟩) (by assumption) ?_
          rotate_left
          · intro w hs1; (try dsimp only at hs1); obtain ⟨s0, -⟩ := hs1; first | (go_simp; done) | (go_simp; with_reducible rfl)
          try simp only [Act.put, List.setIfInBounds_toArray, List.set_cons_zero, List.set_cons_succ]
          refine wpAnyH_take (i := 2) (oi := ⟨_, _, _, _, _, _⟩) (v := ?_) rfl (by kernel_rfl) (by kernel_rfl) (by kernel_rfl) (fun _ _ _ h => h) (Or.inl ⟨by rfl, ?_⟩) (by assumption) ?_
          rotate_left
          · intro w hs1; (try dsimp only at hs1); obtain ⟨s0, -⟩ := hs1; first | (go_simp; done) | (go_simp; with_reducible rfl)
          try simp only [Act.put, List.setIfInBounds_toArray, List.set_cons_zero, List.set_cons_succ]
          refine wpAnyH_take (i := 4) (oi := ⟨_, _, _, _, _, _⟩) (v := ?_) rfl (by kernel_rfl) (by kernel_rfl) (by kernel_rfl) (fun _ _ _ h => h) (Or.inl ⟨by rfl, ?_⟩) (by assumption) ?_
          rotate_left
          · intro w hs1; (try dsimp only at hs1); obtain ⟨s0, -⟩ := hs1; first | (go_simp; done) | (go_simp; with_reducible rfl)
          try simp only [Act.put, List.setIfInBounds_toArray, List.set_cons_zero, List.set_cons_succ]
          refine wpAnyH_take (i := 5) (oi := ⟨_, _, _, _, _, _⟩) (v := ?_) rfl (by kernel_rfl) (by kernel_rfl) (by kernel_rfl) (fun _ _ _ h => h) (Or.inl ⟨by rfl, ?_⟩) (by assumption) ?_
          rotate_left
          · intro w hs1; (try dsimp only at hs1); obtain ⟨s0, -⟩ := hs1; first | (go_simp; done) | (go_simp; with_reducible rfl)
          try simp only [Act.put, List.setIfInBounds_toArray, List.set_cons_zero, List.set_cons_succ]
          refine wpAnyH_take (i := 6) (oi := ⟨_, _, _, _, _, _⟩) (v := ?_) rfl (by kernel_rfl) (by kernel_rfl) (by kernel_rfl) (fun _ _ _ h => h) (Or.inl ⟨by rfl, ?_⟩) (by assumption) ?_
          rotate_left
          · intro w hs1; (try dsimp only at hs1); obtain ⟨s0, -⟩ := hs1; first | (go_simp; done) | (go_simp; with_reducible rfl)
          try simp only [Act.put, List.setIfInBounds_toArray, List.set_cons_zero, List.set_cons_succ]
          refine wpAnyH_ready (rs := [3]) (by kernel_rfl) (by simp) ?_
          refine AllReadyH.cons (o := ⟨_, _, _, _, _, _⟩) rfl (fun KK hK => ?_) AllReadyH.nil
          go_simp
          refine (H1.out _ D0.out).mono ?_
          rintro e v1 ⟨rfl, hb⟩
          have E1 := hideD (bel_outP D0.out hb)
          clear hb
          refine hK.out _ _ ⟨kc _ _ E1.out y1, trivial⟩ (fun hHeld => ?_)
          clear hK KK
          try simp only [Act.put, List.setIfInBounds_toArray, List.set_cons_zero, List.set_cons_succ]
          refine wpAnyH_ready (rs := [7]) (by kernel_rfl) (by simp) ?_
          refine AllReadyH.cons (o := ⟨_, _, _, _, _, _⟩) rfl (fun KK hK => ?_) AllReadyH.nil
          go_simp
          refine (H2.out _ E1.out).mono ?_
          rintro e v2 ⟨rfl, hb⟩
          have E2 := hideD (bel_outP E1.out hb)
          clear hb
          refine hK.out _ _ ⟨kc _ _ E2.out y1, trivial⟩ (fun hHeld => ?_)
          clear hK KK
          try simp only [Act.put, List.setIfInBounds_toArray, List.set_cons_zero, List.set_cons_succ]
          refine wpAnyH_take (i := 8) (oi := ⟨_, _, _, _, _, _⟩) (v := ?_) rfl (by kernel_rfl) (by kernel_rfl) (by kernel_rfl) (fun _ _ _ h => h) (Or.inl ⟨by rfl, ?_⟩) (by assumption) ?_
          rotate_left
          · intro w hs1; (try dsimp only at hs1); obtain ⟨s0, -⟩ := hs1; first | (go_simp; done) | (go_simp; with_reducible rfl)
          try simp only [Act.put, List.setIfInBounds_toArray, List.set_cons_zero, List.set_cons_succ]
          refine wpAnyH_take (i := 9) (oi := ⟨_, _, _, _, _, _⟩) (v := ?_) rfl (by kernel_rfl) (by kernel_rfl) (by kernel_rfl) (fun _ _ _ h => h) (Or.inl ⟨by rfl, ?_⟩) (by assumption) ?_
          rotate_left
          · intro w hs1; (try dsimp only at hs1); obtain ⟨s0, -⟩ := hs1; first | (go_simp; done) | (go_simp; with_reducible rfl)
          try simp only [Act.put, List.setIfInBounds_toArray, List.set_cons_zero, List.set_cons_succ]
          refine wpAnyH_done (by kernel_rfl) ?_ _
          have BW := hideD (bel_outP BW.out E2.out)
          have y1 := kc _ _ E2.out y1
          have HU := hideD (And.intro (HU.out.1.past E2.out) HU.out.2)
          have ZZ := hideD (ZZ.out.past E2.out)
          have HPL := hideD (plus_one9 HN.out HM.out HU.out.1 HLZ.out ZZ.out ZD.out _ rfl)
          rw [HU.out.2] at HPL
          clear H1 H2 D0 E1 E2 TO
          go_wp2_with fail
          refine HPL.out.mono ?_
          rintro e W5 ⟨⟨f5, z5, rfl, h5⟩, hb⟩
          have BW := hideD (bel_outP BW.out hb.out)
          have y1 := kc _ _ hb.out y1
          have HU := hideD (And.intro (HU.out.1.past hb.out) HU.out.2)
          have ZZ := hideD (ZZ.out.past hb.out)
          have H5 := hideD h5.out
          clear hb h5 HPL
          have G1 : Hid (∀ X, Below W5.heap.size W5 X → Calls Tryz.prog 12 #[.pointer (some ⟨f5, 0, none⟩), .slice ra q rc] X fun e w' => e = .returned (.bool (tI || tO)) ∧ Below X.heap.size X w') := fun X hX => has7 HN.out HM.out (H5.out.1.past hX) H5.out.2 HQ.out (by omega) RN.out (HRV.out.later (bel_outP BW.out hX)) HI.out _ PL.out
          have G2 : Hid (∀ X, Below W5.heap.size W5 X → Calls Tryz.prog 20 #[.pointer (some ⟨fb, 0, none⟩)] X fun e w' => (∃ f6, e = .returned (.pointer (some ⟨f6, 0, none⟩)) ∧ Hid (∀ Y, Below w'.heap.size w' Y → Calls Tryz.prog 12 #[.pointer (some ⟨f6, 0, none⟩), .slice ra q rc] Y fun e w' => e = .returned (.bool tI) ∧ Below Y.heap.size Y w')) ∧ Below X.heap.size X w') := fun X hX => by
            refine (ffewer_any fb M m zs X HN.out HM.out (HU.out.1.past hX)).mono ?_
            rintro e w' ⟨⟨f6, z6, -, rfl, a, b⟩, hb⟩
            have ez : zs.length = cs.length := by
              have := congrArg List.length HU.out.2
              rw [List.length_map] at this
              exact this
            rw [HU.out.2, ez] at b
            exact ⟨⟨f6, rfl, fun Y hY => has7 HN.out HM.out (a.past hY) b HQ.out (by omega) RN.out (HRV.out.later (bel_outP (bel_outP (bel_outP BW.out hX) hb) hY)) HI.out tI PF.out⟩, hb⟩
          have D0 := hideD ((Below.refl W5.heap.size W5).drew)
          clear PL PF H5 HLZ
          go_wp2_with fail
          refine wp_region_held (S := fun w' => w'.cell? ⟨w.heap.size + 1, 1, none⟩ = some (.slice ra q rc) ∧ True) (by kernel_rfl) ?_
          have hHeld : W5.drew.cell? ⟨w.heap.size + 1, 1, none⟩ = some (.slice ra q rc) ∧ True := ⟨y1, trivial⟩
          obtain ⟨tU, hU⟩ : ∃ t, (tI || tO) = t := ⟨_, rfl⟩
          obtain ⟨tD, hD⟩ : ∃ t, (tI && !tO) = t := ⟨_, rfl⟩
          obtain ⟨tM, hM⟩ : ∃ t, (tI && tO) = t := ⟨_, rfl⟩
          rw [hU] at G1
          rw [hD] at PM
          rw [hM] at PE
          cases tI <;> cases tO <;> (
            first | obtain rfl : tU = true := hU.symm | obtain rfl : tU = false := hU.symm
            first | obtain rfl : tD = true := hD.symm | obtain rfl : tD = false := hD.symm
            first | obtain rfl : tM = true := hM.symm | obtain rfl : tM = false := hM.symm
            clear hU hD hM TI
            refine wpAnyH_take (i := 0) (oi := ⟨_, _, _, _, _, _⟩) (v := ?_) rfl (by kernel_rfl) (by kernel_rfl) (by kernel_rfl) (fun _ _ _ h => h) (Or.inl ⟨by rfl, ?_⟩) (by assumption) ?_
            rotate_left
            · intro w hs1; (try dsimp only at hs1); obtain ⟨s0, -⟩ := hs1; first | (go_simp; done) | (go_simp; with_reducible rfl)
            try simp only [Act.put, List.setIfInBounds_toArray, List.set_cons_zero, List.set_cons_succ]
            refine wpAnyH_take (i := 1) (oi := ⟨_, _, _, _, _, _⟩) (v := ?_) rfl (by kernel_rfl) (by kernel_rfl) (by kernel_rfl) (fun _ _ _ h => h) (Or.inl ⟨by rfl, ?_⟩) (by assumption) ?_
            rotate_left
            · intro w hs1; (try dsimp only at hs1); obtain ⟨s0, -⟩ := hs1; first | (go_simp; done) | (go_simp; with_reducible rfl)
            try simp only [Act.put, List.setIfInBounds_toArray, List.set_cons_zero, List.set_cons_succ]
            refine wpAnyH_take (i := 2) (oi := ⟨_, _, _, _, _, _⟩) (v := ?_) rfl (by kernel_rfl) (by kernel_rfl) (by kernel_rfl) (fun _ _ _ h => h) (Or.inl ⟨by rfl, ?_⟩) (by assumption) ?_
            rotate_left
            · intro w hs1; (try dsimp only at hs1); obtain ⟨s0, -⟩ := hs1; first | (go_simp; done) | (go_simp; with_reducible rfl)
            try simp only [Act.put, List.setIfInBounds_toArray, List.set_cons_zero, List.set_cons_succ]
            refine wpAnyH_take (i := 3) (oi := ⟨_, _, _, _, _, _⟩) (v := ?_) rfl (by kernel_rfl) (by kernel_rfl) (by kernel_rfl) (fun _ _ _ h => h) (Or.inl ⟨by rfl, ?_⟩) (by assumption) ?_
            rotate_left
            · intro w hs1; (try dsimp only at hs1); obtain ⟨s0, -⟩ := hs1; first | (go_simp; done) | (go_simp; with_reducible rfl)
            try simp only [Act.put, List.setIfInBounds_toArray, List.set_cons_zero, List.set_cons_succ]
            refine wpAnyH_take (i := 4) (oi := ⟨_, _, _, _, _, _⟩) (v := ?_) rfl (by kernel_rfl) (by kernel_rfl) (by kernel_rfl) (fun _ _ _ h => h) (Or.inl ⟨by rfl, ?_⟩) (by assumption) ?_
            rotate_left
            · intro w hs1; (try dsimp only at hs1); obtain ⟨s0, -⟩ := hs1; first | (go_simp; done) | (go_simp; with_reducible rfl)
            try simp only [Act.put, List.setIfInBounds_toArray, List.set_cons_zero, List.set_cons_succ]
            refine wpAnyH_take (i := 5) (oi := ⟨_, _, _, _, _, _⟩) (v := ?_) rfl (by kernel_rfl) (by kernel_rfl) (by kernel_rfl) (fun _ _ _ h => h) (Or.inl ⟨by rfl, ?_⟩) (by assumption) ?_
            rotate_left
            · intro w hs1; (try dsimp only at hs1); obtain ⟨s0, -⟩ := hs1; first | (go_simp; done) | (go_simp; with_reducible rfl)
            try simp only [Act.put, List.setIfInBounds_toArray, List.set_cons_zero, List.set_cons_succ]
            refine wpAnyH_take (i := 7) (oi := ⟨_, _, _, _, _, _⟩) (v := ?_) rfl (by kernel_rfl) (by kernel_rfl) (by kernel_rfl) (fun _ _ _ h => h) (Or.inl ⟨by rfl, ?_⟩) (by assumption) ?_
            rotate_left
            · intro w hs1; (try dsimp only at hs1); obtain ⟨s0, -⟩ := hs1; first | (go_simp; done) | (go_simp; with_reducible rfl)
            try simp only [Act.put, List.setIfInBounds_toArray, List.set_cons_zero, List.set_cons_succ]
            refine wpAnyH_ready (rs := [6]) (by kernel_rfl) (by simp) ?_
            refine AllReadyH.cons (o := ⟨_, _, _, _, _, _⟩) rfl (fun KK hK => ?_) AllReadyH.nil
            go_simp
            refine (G1.out _ D0.out).mono ?_
            rintro e v3 ⟨rfl, hb⟩
            have D1 := hideD (bel_outP D0.out hb)
            clear hb
            refine hK.out _ _ ⟨kc _ _ D1.out y1, trivial⟩ (fun hHeld => ?_)
            clear hK KK
            try simp only [Act.put, List.setIfInBounds_toArray, List.set_cons_zero, List.set_cons_succ]
            refine wpAnyH_take (i := 8) (oi := ⟨_, _, _, _, _, _⟩) (v := ?_) rfl (by kernel_rfl) (by kernel_rfl) (by kernel_rfl) (fun _ _ _ h => h) (Or.inl ⟨by rfl, ?_⟩) (by assumption) ?_
            rotate_left
            · intro w hs1; (try dsimp only at hs1); obtain ⟨s0, -⟩ := hs1; first | (go_simp; done) | (go_simp; with_reducible rfl)
            try simp only [Act.put, List.setIfInBounds_toArray, List.set_cons_zero, List.set_cons_succ]
            first
            | (refine wpAnyH_take (i := 9) (oi := ⟨_, _, _, _, _, _⟩) (v := ?_) rfl (by kernel_rfl) (by kernel_rfl) (by kernel_rfl) (fun _ _ _ h => h) (Or.inl ⟨by rfl, ?_⟩) (by assumption) ?_
               rotate_left
               · intro w hs1; (try dsimp only at hs1); obtain ⟨s0, -⟩ := hs1; first | (go_simp; done) | (go_simp; with_reducible rfl)
               try simp only [Act.put, List.setIfInBounds_toArray, List.set_cons_zero, List.set_cons_succ])
            | (refine wpAnyH_take (i := 9) (oi := ⟨_, _, _, _, _, _⟩) (v := undef) rfl (by kernel_rfl) (by kernel_rfl) (by kernel_rfl) (fun _ _ _ h => h) (Or.inr ⟨by rfl, rfl⟩) (by assumption) ?_
               try simp only [Act.put, List.setIfInBounds_toArray, List.set_cons_zero, List.set_cons_succ])
            refine wpAnyH_take (i := 10) (oi := ⟨_, _, _, _, _, _⟩) (v := ?_) rfl (by kernel_rfl) (by kernel_rfl) (by kernel_rfl) (fun _ _ _ h => h) (Or.inl ⟨by rfl, ?_⟩) (by assumption) ?_
            rotate_left
            · intro w hs1; (try dsimp only at hs1); obtain ⟨s0, -⟩ := hs1; first | (go_simp; done) | (go_simp; with_reducible rfl)
            try simp only [Act.put, List.setIfInBounds_toArray, List.set_cons_zero, List.set_cons_succ]
            refine wpAnyH_take (i := 11) (oi := ⟨_, _, _, _, _, _⟩) (v := ?_) rfl (by kernel_rfl) (by kernel_rfl) (by kernel_rfl) (fun _ _ _ h => h) (Or.inl ⟨by rfl, ?_⟩) (by assumption) ?_
            rotate_left
            · intro w hs1; (try dsimp only at hs1); obtain ⟨s0, -⟩ := hs1; first | (go_simp; done) | (go_simp; with_reducible rfl)
            try simp only [Act.put, List.setIfInBounds_toArray, List.set_cons_zero, List.set_cons_succ]
            refine wpAnyH_take (i := 12) (oi := ⟨_, _, _, _, _, _⟩) (v := ?_) rfl (by kernel_rfl) (by kernel_rfl) (by kernel_rfl) (fun _ _ _ h => h) (Or.inl ⟨by rfl, ?_⟩) (by assumption) ?_
            rotate_left
            · intro w hs1; (try dsimp only at hs1); obtain ⟨s0, -⟩ := hs1; first | (go_simp; done) | (go_simp; with_reducible rfl)
            try simp only [Act.put, List.setIfInBounds_toArray, List.set_cons_zero, List.set_cons_succ]
            refine wpAnyH_take (i := 13) (oi := ⟨_, _, _, _, _, _⟩) (v := ?_) rfl (by kernel_rfl) (by kernel_rfl) (by kernel_rfl) (fun _ _ _ h => h) (Or.inl ⟨by rfl, ?_⟩) (by assumption) ?_
            rotate_left
            · intro w hs1; (try dsimp only at hs1); obtain ⟨s0, -⟩ := hs1; first | (go_simp; done) | (go_simp; with_reducible rfl)
            try simp only [Act.put, List.setIfInBounds_toArray, List.set_cons_zero, List.set_cons_succ]
            refine wpAnyH_take (i := 14) (oi := ⟨_, _, _, _, _, _⟩) (v := ?_) rfl (by kernel_rfl) (by kernel_rfl) (by kernel_rfl) (fun _ _ _ h => h) (Or.inl ⟨by rfl, ?_⟩) (by assumption) ?_
            rotate_left
            · intro w hs1; (try dsimp only at hs1); obtain ⟨s0, -⟩ := hs1; first | (go_simp; done) | (go_simp; with_reducible rfl)
            try simp only [Act.put, List.setIfInBounds_toArray, List.set_cons_zero, List.set_cons_succ]
            refine wpAnyH_take (i := 16) (oi := ⟨_, _, _, _, _, _⟩) (v := ?_) rfl (by kernel_rfl) (by kernel_rfl) (by kernel_rfl) (fun _ _ _ h => h) (Or.inl ⟨by rfl, ?_⟩) (by assumption) ?_
            rotate_left
            · intro w hs1; (try dsimp only at hs1); obtain ⟨s0, -⟩ := hs1; first | (go_simp; done) | (go_simp; with_reducible rfl)
            try simp only [Act.put, List.setIfInBounds_toArray, List.set_cons_zero, List.set_cons_succ]
            refine wpAnyH_take (i := 17) (oi := ⟨_, _, _, _, _, _⟩) (v := ?_) rfl (by kernel_rfl) (by kernel_rfl) (by kernel_rfl) (fun _ _ _ h => h) (Or.inl ⟨by rfl, ?_⟩) (by assumption) ?_
            rotate_left
            · intro w hs1; (try dsimp only at hs1); obtain ⟨s0, -⟩ := hs1; first | (go_simp; done) | (go_simp; with_reducible rfl)
            try simp only [Act.put, List.setIfInBounds_toArray, List.set_cons_zero, List.set_cons_succ]
            refine wpAnyH_take (i := 19) (oi := ⟨_, _, _, _, _, _⟩) (v := ?_) rfl (by kernel_rfl) (by kernel_rfl) (by kernel_rfl) (fun _ _ _ h => h) (Or.inl ⟨by rfl, ?_⟩) (by assumption) ?_
            rotate_left
            · intro w hs1; (try dsimp only at hs1); obtain ⟨s0, -⟩ := hs1; first | (go_simp; done) | (go_simp; with_reducible rfl)
            try simp only [Act.put, List.setIfInBounds_toArray, List.set_cons_zero, List.set_cons_succ]
            refine wpAnyH_ready (rs := [15]) (by kernel_rfl) (by simp) ?_
            refine AllReadyH.cons (o := ⟨_, _, _, _, _, _⟩) rfl (fun KK hK => ?_) AllReadyH.nil
            go_simp
            refine (G2.out _ D1.out).mono ?_
            rintro e v4 ⟨⟨f6, rfl, h6⟩, hb⟩
            have D2 := hideD (bel_outP D1.out hb)
            have H6 := hideD h6.out
            have D6 := hideD (Below.refl v4.heap.size v4)
            clear hb h6
            refine hK.out _ _ ⟨kc _ _ D2.out y1, trivial⟩ (fun hHeld => ?_)
            clear hK KK
            try simp only [Act.put, List.setIfInBounds_toArray, List.set_cons_zero, List.set_cons_succ]
            refine wpAnyH_ready (rs := [18]) (by kernel_rfl) (by simp) ?_
            refine AllReadyH.cons (o := ⟨_, _, _, _, _, _⟩) rfl (fun KK hK => ?_) AllReadyH.nil
            go_simp
            refine (H6.out _ D6.out).mono ?_
            rintro e v5 ⟨rfl, hb⟩
            have D8 := hideD (bel_outP D2.out hb)
            clear hb
            refine hK.out _ _ ⟨kc _ _ D8.out y1, trivial⟩ (fun hHeld => ?_)
            clear hK KK
            try simp only [Act.put, List.setIfInBounds_toArray, List.set_cons_zero, List.set_cons_succ]
            refine wpAnyH_take (i := 20) (oi := ⟨_, _, _, _, _, _⟩) (v := ?_) rfl (by kernel_rfl) (by kernel_rfl) (by kernel_rfl) (fun _ _ _ h => h) (Or.inl ⟨by rfl, ?_⟩) (by assumption) ?_
            rotate_left
            · intro w hs1; (try dsimp only at hs1); obtain ⟨s0, -⟩ := hs1; first | (go_simp; done) | (go_simp; with_reducible rfl)
            try simp only [Act.put, List.setIfInBounds_toArray, List.set_cons_zero, List.set_cons_succ]
            refine wpAnyH_take (i := 21) (oi := ⟨_, _, _, _, _, _⟩) (v := ?_) rfl (by kernel_rfl) (by kernel_rfl) (by kernel_rfl) (fun _ _ _ h => h) (Or.inl ⟨by rfl, ?_⟩) (by assumption) ?_
            rotate_left
            · intro w hs1; (try dsimp only at hs1); obtain ⟨s0, -⟩ := hs1; first | (go_simp; done) | (go_simp; with_reducible rfl)
            try simp only [Act.put, List.setIfInBounds_toArray, List.set_cons_zero, List.set_cons_succ]
            refine wpAnyH_done (by kernel_rfl) ?_ _
            have BW := hideD (bel_outP BW.out D8.out)
            have y1 := kc _ _ D8.out y1
            have HU := hideD (And.intro (HU.out.1.past D8.out) HU.out.2)
            have ZZ := hideD (ZZ.out.past D8.out)
            have HMI := hideD (callsIn_wide.1 (fminus_any fb zb M m zs d _ HN.out HM.out HU.out.1 ZZ.out ZD.out))
            rw [HU.out.2] at HMI
            clear G1 G2 D0 D1 D2 D6 D8 H6
            go_wp2_with fail
            refine HMI.out.mono ?_
            rintro e w7 ⟨h, hb⟩
            have BW := hideD (bel_outP BW.out hb)
            have y1 := kc _ _ hb y1
            have HU := hideD (And.intro (HU.out.1.past hb) HU.out.2)
            have ZZ := hideD (ZZ.out.past hb)
            rcases h with ⟨h1, rfl⟩ | ⟨h1, mb, ps, -, rfl, h3, h4⟩
            · rcases ME.out with e3 | e3 | e3
              · exact absurd e3 h1
              · rw [e3]
                clear hb h1 e3 HMI PM ME
                have HME := hideD (fmeet_any fb zb M m zs d _ HN.out HM.out HU.out.1 ZZ.out ZD.out)
                rw [HU.out.2] at HME
                go_wp2_with fail
                refine HME.out.mono ?_
                rintro e w9 ⟨h, hb⟩
                have BW := hideD (bel_outP BW.out hb)
                have y1 := kc _ _ hb y1
                rcases h with ⟨h2, rfl⟩ | ⟨h2, tb, ts, -, rfl, h5, h6⟩
                · have p1 : ((meetL M m cs d).2 == 0) = false := by simpa using h2
                  clear PE HME hb h2 HU ZZ ZD
                  generalize (meetL M m cs d).2 = ee at *
                  have p2 : (ee != 0) = true := by simp [bne, p1]
                  go_wp2_with fail
                  refine (HL.out _).mono ?_
                  rintro e wz ⟨rfl, hb⟩
                  have BW := hideD (bel_outP BW.out hb)
                  clear hb
                  go_wp2_with fail
                  go_ret
                  exact ⟨rfl, BW.out⟩
                · have P2 := hideD (PE.out h2)
                  have F5 := hideD (And.intro h5 h6)
                  clear PE HME hb h2 HU ZZ ZD h5 h6
                  go_wp2_with fail
                  refine (HL.out _).mono ?_
                  rintro e wz ⟨rfl, hb⟩
                  have BW := hideD (bel_outP BW.out hb)
                  have y1 := kc _ _ hb y1
                  have GT := hideD (has7 HN.out HM.out (F5.out.1.past hb) F5.out.2 HQ.out (by omega) RN.out (HRV.out.later BW.out) HI.out _ P2.out)
                  clear hb F5
                  go_wp2_with fail
                  refine GT.out.mono ?_
                  rintro e wy ⟨rfl, hb⟩
                  have BW := hideD (bel_outP BW.out hb)
                  clear hb GT
                  go_wp2_with fail
                  go_ret
                  exact ⟨rfl, BW.out⟩
              · rw [e3]
                clear hb h1 e3 HMI PM ME
                have HME := hideD (fmeet_any fb zb M m zs d _ HN.out HM.out HU.out.1 ZZ.out ZD.out)
                rw [HU.out.2] at HME
                go_wp2_with fail
                refine HME.out.mono ?_
                rintro e w9 ⟨h, hb⟩
                have BW := hideD (bel_outP BW.out hb)
                have y1 := kc _ _ hb y1
                rcases h with ⟨h2, rfl⟩ | ⟨h2, tb, ts, -, rfl, h5, h6⟩
                · have p1 : ((meetL M m cs d).2 == 0) = false := by simpa using h2
                  clear PE HME hb h2 HU ZZ ZD
                  generalize (meetL M m cs d).2 = ee at *
                  have p2 : (ee != 0) = true := by simp [bne, p1]
                  go_wp2_with fail
                  refine (HL.out _).mono ?_
                  rintro e wz ⟨rfl, hb⟩
                  have BW := hideD (bel_outP BW.out hb)
                  clear hb
                  go_wp2_with fail
                  go_ret
                  exact ⟨rfl, BW.out⟩
                · have P2 := hideD (PE.out h2)
                  have F5 := hideD (And.intro h5 h6)
                  clear PE HME hb h2 HU ZZ ZD h5 h6
                  go_wp2_with fail
                  refine (HL.out _).mono ?_
                  rintro e wz ⟨rfl, hb⟩
                  have BW := hideD (bel_outP BW.out hb)
                  have y1 := kc _ _ hb y1
                  have GT := hideD (has7 HN.out HM.out (F5.out.1.past hb) F5.out.2 HQ.out (by omega) RN.out (HRV.out.later BW.out) HI.out _ P2.out)
                  clear hb F5
                  go_wp2_with fail
                  refine GT.out.mono ?_
                  rintro e wy ⟨rfl, hb⟩
                  have BW := hideD (bel_outP BW.out hb)
                  clear hb GT
                  go_wp2_with fail
                  go_ret
                  exact ⟨rfl, BW.out⟩
            · have GM := hideD (has7 HN.out HM.out h3 h4 HQ.out (by omega) RN.out (HRV.out.later BW.out) HI.out _ (PM.out h1))
              clear hb h1 h3 h4 HMI PM ME
              go_wp2_with fail
              refine GM.out.mono ?_
              rintro e w8 ⟨rfl, hb⟩
              have BW := hideD (bel_outP BW.out hb)
              have y1 := kc _ _ hb y1
              have HU := hideD (And.intro (HU.out.1.past hb) HU.out.2)
              have ZZ := hideD (ZZ.out.past hb)
              clear hb GM
              have HME := hideD (fmeet_any fb zb M m zs d _ HN.out HM.out HU.out.1 ZZ.out ZD.out)
              rw [HU.out.2] at HME
              go_wp2_with fail
              refine HME.out.mono ?_
              rintro e w9 ⟨h, hb⟩
              have BW := hideD (bel_outP BW.out hb)
              have y1 := kc _ _ hb y1
              rcases h with ⟨h2, rfl⟩ | ⟨h2, tb, ts, -, rfl, h5, h6⟩
              · have p1 : ((meetL M m cs d).2 == 0) = false := by simpa using h2
                clear PE HME hb h2 HU ZZ ZD
                generalize (meetL M m cs d).2 = ee at *
                have p2 : (ee != 0) = true := by simp [bne, p1]
                go_wp2_with fail
                refine (HL.out _).mono ?_
                rintro e wz ⟨rfl, hb⟩
                have BW := hideD (bel_outP BW.out hb)
                clear hb
                go_wp2_with fail
                go_ret
                exact ⟨rfl, BW.out⟩
              · have P2 := hideD (PE.out h2)
                have F5 := hideD (And.intro h5 h6)
                clear PE HME hb h2 HU ZZ ZD h5 h6
                go_wp2_with fail
                refine (HL.out _).mono ?_
                rintro e wz ⟨rfl, hb⟩
                have BW := hideD (bel_outP BW.out hb)
                have y1 := kc _ _ hb y1
                have GT := hideD (has7 HN.out HM.out (F5.out.1.past hb) F5.out.2 HQ.out (by omega) RN.out (HRV.out.later BW.out) HI.out _ P2.out)
                clear hb F5
                go_wp2_with fail
                refine GT.out.mono ?_
                rintro e wy ⟨rfl, hb⟩
                have BW := hideD (bel_outP BW.out hb)
                clear hb GT
                go_wp2_with fail
                go_ret
                exact ⟨rfl, BW.out⟩
          )
    · have p2 : (k0 == 0) = false := by simpa using e2
      clear FN UN LEN KU MO KO ZCO HP HZ HQ RN HRV HI
      subst e1
      go_wp2_with fail
      refine (HL.out _).mono ?_
      rintro e w5 ⟨rfl, hb⟩
      have BW := hideD (bel_outP BW.out hb)
      clear hb
      go_wp2_with fail
      go_ret
      exact ⟨rfl, BW.out⟩
  · have p1 : (k1 == 0) = false := by simpa using e1
    clear FN UN LEN KU MO KO ZCO HP HZ HQ RN HRV HI
    go_wp2_with fail
    refine (HL.out _).mono ?_
    rintro e w5 ⟨rfl, hb⟩
    have BW := hideD (bel_outP BW.out hb)
    clear hb
    go_wp2_with fail
    go_ret
    exact ⟨rfl, BW.out⟩
end Go.Proofs.YtnfkmpickmonoaaGreat
