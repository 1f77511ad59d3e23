/-
  The walk of FedParts.
-/
import Derived.OrdersHeld
import Derived.Deep.RegionHeld
import Derived.Test.YtnfkmpickmonoaaQ53
import Derived.Test.YtnfkmpickmonoaaQ49
namespace Go.Proofs.Ytnfkmpickmonoaa
open Go.RowKit Go.Shelf
set_option linter.unusedVariables false
set_option maxRecDepth 100000
attribute [local go_sem] Oper.semAt_some
theorem bel_out8 {w A C : World} (h : Below w.heap.size w A) (hb : Below A.heap.size A C) : Below w.heap.size w C := h.trans (hb.mono h.size)
/-- New of one zone. -/
theorem new_one8 {W : World} {n m b : Nat} {c : Row} (hn : n ≤ 8) (hz : ZoneAt W b n c) (zc : ZC n m c) :
    Calls Try.prog 9 #[.int .i64 (n : Int), .slice (some ⟨W.heap.size, 0, none⟩) 1 1] (W.alloc (.cells #[.pointer (some ⟨b, 0, none⟩)] 30)) fun e w' => (∃ fb zs, e = .returned (.tuple #[.pointer (some ⟨fb, 0, none⟩), .int .i64 0]) ∧ Hid (FedAt w' fb n m zs ∧ zs.map (·.2) = oneU c)) ∧ Hid (Below W.heap.size W w') := by
  have b0 := below_one W (.cells #[.pointer (some ⟨b, 0, none⟩)] 30)
  refine (new_any _ 1 1 n m [some (b, c)] _ hn rfl (by omega) ⟨fun k hk => ?_, fun z hz' => ?_⟩ (by simp [hasNil])).mono ?_
  · obtain rfl : k = 0 := by simp at hk; omega
    exact ⟨W.heap.size, rfl, by simp [go_sem]⟩
  · simp at hz'
    subst hz'
    exact ⟨hz.past b0, zc⟩
  · rintro e w' ⟨h, hb⟩
    rw [newL_one] at h
    rcases h with ⟨h1, -⟩ | ⟨-, fb, zs, -, h2, h3, h4⟩
    · exact absurd rfl h1
    · exact ⟨⟨fb, zs, h2, h3, h4⟩, b0.trans (hb.mono (by simp))⟩
/-- Plus of one zone. -/
theorem plus_one8 {W : World} {fb n m b : Nat} {c : Row} {zs : List ZR} (hn : n ≤ 8) (hm : m = (n + 1) * (n + 1)) (hf : FedAt W fb n m zs) (hl : zs.length ≤ 300) (hz : ZoneAt W b n c) (zc : ZC n m c) :
    Calls Try.prog 13 #[.pointer (some ⟨fb, 0, none⟩), .slice (some ⟨W.heap.size, 0, none⟩) 1 1] (W.alloc (.cells #[.pointer (some ⟨b, 0, none⟩)] 30)) fun e w' => (∃ fb zs, e = .returned (.tuple #[.pointer (some ⟨fb, 0, none⟩), .int .i64 0]) ∧ Hid (FedAt w' fb n m zs ∧ zs.length ≤ 4000)) ∧ Hid (Below W.heap.size W w') := by
  have b0 := below_one W (.cells #[.pointer (some ⟨b, 0, none⟩)] 30)
  refine (fplus_any fb n m W.heap.size 1 zs [some (b, c)] (fun p x w => ∃ f2 zs2, p = .pointer (some ⟨f2, 0, none⟩) ∧ x = .int .i64 0 ∧ FedAt w f2 n m zs2 ∧ zs2.length ≤ 4000) _ (hf.past b0) ⟨fun k hk => ?_, fun z hz' => ?_⟩ (by simp) (by simp) (fun Y g cap hY hrow => ?_)).mono ?_
  · obtain rfl : k = 0 := by simp at hk; omega
    exact ⟨W.heap.size, rfl, by simp [go_sem]⟩
  · simp at hz'
    subst hz'
    exact ⟨hz.past b0, zc⟩
  · have e : newL (zs.map some ++ [some (b, c)]) = (((zs.map (·.2)) ++ [c]).filter (fun c => decide (¬ c 0 < 1)), 0) := by
      have e1 : (zs.map some ++ [some (b, c)] : List PZ7).map ysP = ((zs.map (·.2)) ++ [c]).map fun c => ((some c, 0) : YS) := by
        rw [List.map_append, List.map_map, List.map_append, List.map_map]
        rfl
      unfold newL
      rw [e1, layL_cells _ _ (by simp; omega)]
      rfl
    refine (new_any _ cap (zs.length + 1) n m (zs.map some ++ [some (b, c)]) Y hn (by simp) (by omega) hrow (by
      refine hasNil_no (fun p hp => ?_)
      rcases List.mem_append.1 hp with q | q
      · obtain ⟨z, -, rfl⟩ := List.mem_map.1 q
        simp
      · rw [List.mem_singleton.1 q]
        simp)).mono ?_
    rintro x w' ⟨h, hb'⟩
    rw [e] at h
    rcases h with ⟨h1, -⟩ | ⟨-, f2, zs2, -, rfl, a, b⟩
    · exact absurd rfl h1
    · refine ⟨⟨_, _, rfl, f2, zs2, rfl, rfl, a, ?_⟩, hb'⟩
      have l3 : zs2.length = (List.filter (fun c : Row => decide (¬ c 0 < 1)) (zs.map (·.2) ++ [c])).length := by
        have h := congrArg List.length b
        rw [List.length_map] at h
        exact h
      have l2 := List.length_filter_le (fun c : Row => decide (¬ c 0 < 1)) ((zs.map (·.2)) ++ [c])
      simp only [List.length_append, List.length_map, List.length_cons, List.length_nil] at l2
      omega
  · rintro e w' ⟨⟨p, x, rfl, f2, zs2, rfl, rfl, a, l⟩, hb'⟩
    exact ⟨⟨f2, zs2, rfl, a, l⟩, b0.trans (hb'.mono (by simp))⟩
set_option maxHeartbeats 8000000 in
theorem fedParts.walk (n : Int) (hn : (Lit.int .i64 n).wf = true) (v : Value) (l : List Int) (v' : Value) (l' : List Int) (w : World) (hS : SliceAt w v l) (wf : ∀ z ∈ l, (Lit.int .i32 z).wf = true) (hby : l.length * 4 ≤ 140737488355328) (hnl : ∀ {c}, v = .slice none 0 c → c = 0)
    (hS' : SliceAt w v' l') (wf' : ∀ z ∈ l', (Lit.int .i32 z).wf = true) (hby' : l'.length * 4 ≤ 140737488355328) (hnl' : ∀ {c}, v' = .slice none 0 c → c = 0) :
    Calls Try.prog 4 #[.int .i64 n, v, v'] w fun e w' => e = .returned (.bool true) ∧ Below w.heap.size w w' := by
  obtain ⟨k1, o1, op1, -, zc1, hM1, hk1⟩ := two_of7b n v l w hS (wf_cells7 wf) (by omega)
  obtain ⟨k2, o2, op2, -, zc2, hM2, hk2⟩ := two_of7b n v' l' w hS' (wf_cells7 wf') (by omega)
  have HL : Hid (∀ w : World, Calls Try.prog 11 #[] w fun e w' => e = .returned (.bool true) ∧ Below w.heap.size w w') := flive_any
  have OP1 := hideD op1
  have OP2 := hideD op2
  have Z1 := hideD zc1
  have Z2 := hideD zc2
  have M1 := hideD hM1
  have M2 := hideD hM2
  have K1 := hideD hk1
  have K2 := hideD hk2
  clear hn hS wf hby hnl hS' wf' hby' hnl' op1 op2 zc1 zc2 hM1 hM2 hk1 hk2
  go_enter Try.func4, Try.ntmps4
  go_wp2_with fail
  refine (OP1.out _ (Below.refl _ _)).mono ?_
  rintro e w1 ⟨⟨xp, rfl, hx⟩, hb⟩
  have B1 := hideD hb.out
  have HX := hideD hx.out
  clear hx hb OP1
  go_wp2_with fail
  refine (OP2.out _ B1.out).mono ?_
  rintro e w2 ⟨⟨yp, rfl, hy⟩, hb⟩
  have B2 := hideD (bel_out8 B1.out hb.out)
  have HX := hideD (HX.out.past hb.out)
  have HY := hideD hy.out
  clear hy hb OP2 B1
  by_cases e1 : k1 = 0
  · by_cases e2 : k2 = 0
    · have n1 := K1.out e1
      have n2 := K2.out e2
      subst e1 e2
      cases o1 with
      | none => exact absurd rfl n1
      | some q1 =>
        cases o2 with
        | none => exact absurd rfl n2
        | some q2 =>
          obtain ⟨N, c⟩ := q1
          obtain ⟨M, d⟩ := q2
          have a1 := M1.out N c rfl
          have a2 := M2.out M d rfl
          obtain rfl : M = N := by omega
          obtain rfl := a1
          obtain ⟨N8, -, xb, rfl, hx⟩ := HX.out
          obtain ⟨-, -, yb, rfl, hy⟩ := HY.out
          obtain ⟨m, hm⟩ : ∃ m, m = (M + 1) * (M + 1) := ⟨_, rfl⟩
          have zc := Z1.out M c rfl
          have zd := Z2.out M d rfl
          rw [← hm] at zc zd
          have XA := hideD hx
          have YA := hideD hy
          have ZCc := hideD zc
          have ZDd := hideD zd
          have HN := hideD N8
          have HM := hideD hm
          have PO := hideD (parts_one N8 hm zc zd)
          have HNW := hideD (new_one8 N8 hx zc)
          clear HX HY M1 M2 K1 K2 Z1 Z2 a2 n1 n2 hx hy zc zd hm N8
          go_wp2_with fail
          refine HNW.out.mono ?_
          rintro e w3 ⟨⟨ub, us, rfl, hu⟩, hb⟩
          have BW := hideD (bel_out8 B2.out hb.out)
          have XA := hideD (XA.out.past hb.out)
          have YA := hideD (YA.out.past hb.out)
          have HU := hideD hu.out
          have HMI := hideD (callsIn_wide.1 (fminus_any ub yb M m us d w3 HN.out HM.out HU.out.1 YA.out ZDd.out))
          rw [HU.out.2] at HMI
          clear hu hb HNW B2
          go_wp2_with fail
          refine HMI.out.mono ?_
          rintro e w4 ⟨h, hb⟩
          have BW := hideD (bel_out8 BW.out hb)
          have XA := hideD (XA.out.past hb)
          have YA := hideD (YA.out.past hb)
          have HU := hideD (And.intro (HU.out.1.past hb) HU.out.2)
          rcases h with ⟨h1, rfl⟩ | ⟨h1, mb, ps, -, rfl, h3, h4⟩
          · have e10 : (minusL M m (oneU c) d).2 = 10 := by
              rcases PO.out.err with q | q
              · exact absurd q h1
              · exact q
            rw [e10]
            clear h1 HMI PO HU XA YA hb e10
            go_wp2_with fail
            refine (HL.out _).mono ?_
            rintro e w5 ⟨rfl, hb⟩
            have BW := hideD (bel_out8 BW.out hb)
            clear hb
            go_wp2_with fail
            go_ret
            exact ⟨rfl, BW.out⟩
          · have HP := hideD (And.intro h3 h4)
            have hlen : ps.length ≤ 200 := by
              have := PO.out.len
              rw [← h4, List.length_map] at this
              exact this
            have HZN := hideD (fzones_any mb M m ps w4 h3)
            obtain ⟨q, hq⟩ : ∃ q, ps.length = q := ⟨_, rfl⟩
            rw [hq] at hlen HZN
            have HQ := hideD hq
            clear h1 h3 h4 hq HMI hb
            go_wp2_with fail
            refine HZN.out.mono ?_
            rintro e wl ⟨⟨v, rfl, hown⟩, hb⟩
            obtain ⟨ad, cap, rfl⟩ := own_sl hown
            have BW := hideD (bel_out8 BW.out hb)
            have XA := hideD (XA.out.past hb)
            have YA := hideD (YA.out.past hb)
            have HU := hideD (And.intro (HU.out.1.past hb) HU.out.2)
            have HP := hideD (And.intro (HP.out.1.past hb) HP.out.2)
            have HEL : Hid (∀ K, K < q → ∃ (g b : Nat) (r : Row), ad = some ⟨g, 0, none⟩ ∧ wl.cell? ⟨g, K, none⟩ = some (.pointer (some ⟨b, 0, none⟩)) ∧ ZoneAt wl b M r ∧ ZC M m r ∧ ¬ r 0 < 1 ∧ (∀ k, k < m → r k ≤ c k) ∧ metB M m r d = false ∧ (minusL M m (oneU c) d).1[K]? = some r) := fun K hK => by
              have h1 : K < ps.length := by rw [HQ.out]; exact hK
              rcases own_at hown with ⟨-, e2⟩ | ⟨g, cap', e1, -, -, hc⟩
              · omega
              · injection e1 with e1
                have c1 := hc K (pvF ps[K]) hK (by rw [List.getElem?_map, List.getElem?_eq_getElem h1]; rfl)
                obtain ⟨z1, z2, z3⟩ := HP.out.1.zones ps[K] (List.getElem_mem h1)
                have hmem : ps[K].2 ∈ (minusL M m (oneU c) d).1 := by rw [← HP.out.2]; exact List.mem_map.2 ⟨_, List.getElem_mem h1, rfl⟩
                obtain ⟨-, -, y3, y4⟩ := PO.out.at_ _ hmem
                exact ⟨g, ps[K].1, ps[K].2, e1, c1, z1, z2, z3, y3, y4, by rw [← HP.out.2, List.getElem?_map, List.getElem?_eq_getElem h1]; rfl⟩
            have HPW : Hid (∀ (I J : Nat) (r r' : Row), J < I → (minusL M m (oneU c) d).1[I]? = some r → (minusL M m (oneU c) d).1[J]? = some r' → metB M m r r' = false) := fun I J r r' hJI h1 h2 => by
              obtain ⟨a1, rfl⟩ := List.getElem?_eq_some_iff.1 h1
              obtain ⟨a2, rfl⟩ := List.getElem?_eq_some_iff.1 h2
              exact List.pairwise_iff_getElem.1 PO.out.pw J I a2 a1 hJI
            clear hown hb HZN PO
            go_wp2_with fail
            go_loopw [14] (fun i wr => ∃ (I : Nat), I ≤ q ∧ i = .int .i64 (I : Int) ∧ Hid (Below wl.heap.size wl wr)) (fun i _ => q - (intOf i).toNat)
            case atStart => exact ⟨0, Nat.zero_le _, rfl, Below.refl _ _⟩
            case round =>
              obtain ⟨I, hI, rfl, HB⟩ := hrel
              by_cases ci : I < q
              · have k1 : (I : Int) < (q : Int) := by omega
                obtain ⟨g, bi, ri, e1, e2, zi, zci, ri0, rle, rmet, rat⟩ := HEL.out I ci
                subst e1
                have E2 := hideD e2
                have ZI := hideD zi
                have ZCI := hideD zci
                have RI0 := hideD ri0
                have RLE := hideD rle
                have RMET := hideD rmet
                have RAT := hideD rat
                obtain ⟨wo, hwo⟩ : ∃ wo, wo = wr := ⟨_, rfl⟩
                subst hwo
                clear e2 zi zci ri0 rle rmet rat
                go_wp2_with fail
                go_loopw [15] (fun s wr => ∃ (J : Nat), J ≤ I ∧ s = .int .i64 (J : Int) ∧ Hid (Below wl.heap.size wl wr)) (fun s _ => I - (intOf s).toNat)
                case atStart => exact ⟨0, Nat.zero_le _, rfl, HB⟩
                case round =>
                  clear HB
                  obtain ⟨J, hJ, rfl, HB⟩ := hrel
                  by_cases cj : J < I
                  · have k2 : (J : Int) < (I : Int) := by omega
                    obtain ⟨g', bj, rj, e1, e3, zj, zcj, -, -, -, rat⟩ := HEL.out J (by omega)
                    injection e1 with e1
                    injection e1 with e1
                    subst e1
                    have c1 := kc _ _ HB.out E2.out
                    have c2 := kc _ _ HB.out e3
                    have HMM : Hid (∀ W, Below wr.heap.size wr W → Calls Try.prog 22 #[.pointer (some ⟨bi, 0, none⟩), .pointer (some ⟨bj, 0, none⟩)] W fun e w' => e = .returned (.bool false) ∧ Below W.heap.size W w') := fun W hW => by
                      have hb2 := bel_out8 HB.out hW
                      have h := zmeets_zc (ZI.out.past hb2) (zj.past hb2) HN.out HM.out ZCI.out zcj
                      rw [HPW.out I J ri rj cj RAT.out rat] at h
                      exact h
                    have jq : (J : Int) < (q : Int) := by omega
                    clear e3 zj zcj rat
                    go_wp2_with fail
                    refine wp_region_held (S := fun w' => w'.cell? ⟨g, I, none⟩ = some (.pointer (some ⟨bi, 0, none⟩)) ∧ w'.cell? ⟨g, J, none⟩ = some (.pointer (some ⟨bj, 0, none⟩))) (by kernel_rfl) ?_
                    have hHeld : wr.drew.cell? ⟨g, I, none⟩ = some (.pointer (some ⟨bi, 0, none⟩)) ∧ wr.drew.cell? ⟨g, J, none⟩ = some (.pointer (some ⟨bj, 0, none⟩)) := ⟨c1, c2⟩
                    have B0 := hideD ((Below.refl wr.heap.size wr).drew)
                    refine wpAnyH_take (i := 0) (oi := ⟨_, _, _, _, _, _⟩) (v := ?_) rfl (by kernel_rfl) (by kernel_rfl) (by kernel_rfl) (fun _ _ _ h => h) (Or.inl ⟨by rfl, ?_⟩) (by assumption) ?_
                    rotate_left
                    · intro w hs1; (try dsimp only at hs1); obtain ⟨s0, s1⟩ := hs1; first | (go_simp; done) | (go_simp; with_reducible rfl)
                    try simp only [Act.put, List.setIfInBounds_toArray, List.set_cons_zero, List.set_cons_succ]
                    refine wpAnyH_take (i := 1) (oi := ⟨_, _, _, _, _, _⟩) (v := ?_) rfl (by kernel_rfl) (by kernel_rfl) (by kernel_rfl) (fun _ _ _ h => h) (Or.inl ⟨by rfl, ?_⟩) (by assumption) ?_
                    rotate_left
                    · intro w hs1; (try dsimp only at hs1); obtain ⟨s0, s1⟩ := hs1; first | (go_simp; done) | (go_simp; with_reducible rfl)
                    try simp only [Act.put, List.setIfInBounds_toArray, List.set_cons_zero, List.set_cons_succ]
                    refine wpAnyH_take (i := 2) (oi := ⟨_, _, _, _, _, _⟩) (v := ?_) rfl (by kernel_rfl) (by kernel_rfl) (by kernel_rfl) (fun _ _ _ h => h) (Or.inl ⟨by rfl, ?_⟩) (by assumption) ?_
                    rotate_left
                    · intro w hs1; (try dsimp only at hs1); obtain ⟨s0, s1⟩ := hs1; first | (go_simp; done) | (go_simp; with_reducible rfl)
                    try simp only [Act.put, List.setIfInBounds_toArray, List.set_cons_zero, List.set_cons_succ]
                    refine wpAnyH_take (i := 3) (oi := ⟨_, _, _, _, _, _⟩) (v := ?_) rfl (by kernel_rfl) (by kernel_rfl) (by kernel_rfl) (fun _ _ _ h => h) (Or.inl ⟨by rfl, ?_⟩) (by assumption) ?_
                    rotate_left
                    · intro w hs1; (try dsimp only at hs1); obtain ⟨s0, s1⟩ := hs1; first | (go_simp; done) | (go_simp; with_reducible rfl)
                    try simp only [Act.put, List.setIfInBounds_toArray, List.set_cons_zero, List.set_cons_succ]
                    refine wpAnyH_take (i := 4) (oi := ⟨_, _, _, _, _, _⟩) (v := ?_) rfl (by kernel_rfl) (by kernel_rfl) (by kernel_rfl) (fun _ _ _ h => h) (Or.inl ⟨by rfl, ?_⟩) (by assumption) ?_
                    rotate_left
                    · intro w hs1; (try dsimp only at hs1); obtain ⟨s0, s1⟩ := hs1; first | (go_simp; done) | (go_simp; with_reducible rfl)
                    try simp only [Act.put, List.setIfInBounds_toArray, List.set_cons_zero, List.set_cons_succ]
                    refine wpAnyH_take (i := 5) (oi := ⟨_, _, _, _, _, _⟩) (v := ?_) rfl (by kernel_rfl) (by kernel_rfl) (by kernel_rfl) (fun _ _ _ h => h) (Or.inl ⟨by rfl, ?_⟩) (by assumption) ?_
                    rotate_left
                    · intro w hs1; (try dsimp only at hs1); obtain ⟨s0, s1⟩ := hs1; first | (go_simp; done) | (go_simp; with_reducible rfl)
                    try simp only [Act.put, List.setIfInBounds_toArray, List.set_cons_zero, List.set_cons_succ]
                    refine wpAnyH_take (i := 6) (oi := ⟨_, _, _, _, _, _⟩) (v := ?_) rfl (by kernel_rfl) (by kernel_rfl) (by kernel_rfl) (fun _ _ _ h => h) (Or.inl ⟨by rfl, ?_⟩) (by assumption) ?_
                    rotate_left
                    · intro w hs1; (try dsimp only at hs1); obtain ⟨s0, s1⟩ := hs1; first | (go_simp; done) | (go_simp; with_reducible rfl)
                    try simp only [Act.put, List.setIfInBounds_toArray, List.set_cons_zero, List.set_cons_succ]
                    refine wpAnyH_take (i := 7) (oi := ⟨_, _, _, _, _, _⟩) (v := ?_) rfl (by kernel_rfl) (by kernel_rfl) (by kernel_rfl) (fun _ _ _ h => h) (Or.inl ⟨by rfl, ?_⟩) (by assumption) ?_
                    rotate_left
                    · intro w hs1; (try dsimp only at hs1); obtain ⟨s0, s1⟩ := hs1; first | (go_simp; done) | (go_simp; with_reducible rfl)
                    try simp only [Act.put, List.setIfInBounds_toArray, List.set_cons_zero, List.set_cons_succ]
                    refine wpAnyH_ready (rs := [8]) (by kernel_rfl) (by simp) ?_
                    refine AllReadyH.cons (o := ⟨_, _, _, _, _, _⟩) rfl (fun KK hK => ?_) AllReadyH.nil
                    go_simp
                    refine (HMM.out _ B0.out).mono ?_
                    rintro e w6 ⟨rfl, hb⟩
                    have B6 := hideD (beyondD B0.out hb)
                    refine hK.out _ _ ⟨kc _ _ B6.out c1, kc _ _ B6.out c2⟩ (fun hHeld => ?_)
                    clear hK KK
                    try simp only [Act.put, List.setIfInBounds_toArray, List.set_cons_zero, List.set_cons_succ]
                    refine wpAnyH_done (by kernel_rfl) ?_ _
                    have HB2 := hideD (bel_out8 HB.out B6.out)
                    go_wp2_with fail
                    go_roundw
                    case rel => exact ⟨J + 1, by omega, by go_num, HB2⟩
                    case measure => simp [intOf]; omega
                  · have k2 : ¬ (J : Int) < (I : Int) := by omega
                    have c1 := kc _ _ HB.out E2.out
                    have HE := hideD (zempty_any bi M ri wr HN.out (ZI.out.past HB.out))
                    rw [decide_eq_false (show ¬ ri 0 < 1 by have := RI0.out; omega)] at HE
                    go_wp2_with fail
                    refine HE.out.mono ?_
                    rintro e wa ⟨rfl, hb⟩
                    have HB := hideD (bel_out8 HB.out hb)
                    have c1 := kc _ _ HB.out E2.out
                    have HMY := zmeets_zc (ZI.out.past HB.out) (YA.out.past HB.out) HN.out HM.out ZCI.out ZDd.out
                    rw [RMET.out] at HMY
                    have HMY := hideD HMY
                    clear hb HE
                    go_wp2_with fail
                    refine HMY.out.mono ?_
                    rintro e wb ⟨rfl, hb⟩
                    have HB := hideD (bel_out8 HB.out hb)
                    have c1 := kc _ _ HB.out E2.out
                    have HIN := hideD (zinc_zc (XA.out.past HB.out) (ZI.out.past HB.out) HN.out HM.out (by have := RI0.out; omega) RLE.out)
                    clear hb HMY
                    go_wp2_with fail
                    refine HIN.out.mono ?_
                    rintro e wc ⟨rfl, hb⟩
                    have HB := hideD (bel_out8 HB.out hb)
                    clear hb HIN
                    go_wp2_with fail
                    go_roundw
                    case rel => exact ⟨I + 1, by omega, by go_num, HB⟩
                    case measure => simp [intOf]; omega
              · have k1 : ¬ (I : Int) < (q : Int) := by omega
                have BW := hideD (bel_out8 BW.out HB.out)
                have XA := hideD (XA.out.past HB.out)
                have YA := hideD (YA.out.past HB.out)
                have HU := hideD (And.intro (HU.out.1.past HB.out) HU.out.2)
                have HPL := hideD (plus_one8 HN.out HM.out (HP.out.1.past HB.out) (by rw [HQ.out]; omega) YA.out ZDd.out)
                clear HEL HPW HB HP
                go_wp2_with fail
                refine HPL.out.mono ?_
                rintro e wa ⟨⟨pb, pz, rfl, hp⟩, hb⟩
                have BW := hideD (bel_out8 BW.out hb.out)
                have XA := hideD (XA.out.past hb.out)
                have YA := hideD (YA.out.past hb.out)
                have HU := hideD (And.intro (HU.out.1.past hb.out) HU.out.2)
                have HP := hideD hp.out
                have HME := hideD (fmeet_any ub yb M m us d wa HN.out HM.out HU.out.1 YA.out ZDd.out)
                rw [HU.out.2] at HME
                clear hp hb HPL HU
                go_wp2_with fail
                refine HME.out.mono ?_
                rintro e wb ⟨h, hb⟩
                have BW := hideD (bel_out8 BW.out hb)
                have XA := hideD (XA.out.past hb)
                have YA := hideD (YA.out.past hb)
                have HP := hideD (And.intro (HP.out.1.past hb) HP.out.2)
                rcases h with ⟨h1, rfl⟩ | ⟨h1, cb, cz, -, rfl, h3, h4⟩
                · have p1 : ((meetL M m (oneU c) d).2 == 0) = false := by simpa using h1
                  generalize (meetL M m (oneU c) d).2 = ee at *
                  have p2 : (ee != 0) = true := by simp [bne, p1]
                  clear HME hb
                  go_wp2_with fail
                  refine (HL.out _).mono ?_
                  rintro e wc ⟨rfl, hb⟩
                  have BW := hideD (bel_out8 BW.out hb)
                  have XA := hideD (XA.out.past hb)
                  have HP := hideD (And.intro (HP.out.1.past hb) HP.out.2)
                  have HI := hideD (finc_any pb xb M m pz c _ HN.out HM.out HP.out.1 XA.out ZCc.out)
                  obtain ⟨R, hR⟩ : ∃ R, fincB M m (pz.map (·.2)) (some (xb, c)) = R := ⟨_, rfl⟩
                  have HRR := hideD hR
                  rw [hR] at HI
                  clear hb hR
                  go_wp2_with fail
                  refine HI.out.mono ?_
                  rintro e wx ⟨rfl, hb⟩
                  have BW := hideD (bel_out8 BW.out hb)
                  have XA := hideD (XA.out.past hb)
                  have HP := hideD (And.intro (HP.out.1.past hb) HP.out.2)
                  clear hb HI
                  cases R with
                  | true =>
                    go_wp2_with fail
                    go_ret
                    exact ⟨rfl, BW.out⟩
                  | false =>
                    have HCO := hideD (covered_any pb xb M m pz c wx HN.out HM.out HP.out.1 HP.out.2 XA.out ZCc.out)
                    rw [HRR.out] at HCO
                    go_wp2_with fail
                    refine HCO.out.mono ?_
                    rintro e wy ⟨rfl, hb⟩
                    have BW := hideD (bel_out8 BW.out hb)
                    clear hb
                    go_wp2_with fail
                    go_ret
                    exact ⟨rfl, BW.out⟩
                · have hmo := meet_one HN.out HM.out ZCc.out ZDd.out h1
                  rw [← h4, List.length_map] at hmo
                  have HCZ := hideD h3
                  have HMO := hideD hmo
                  clear HME hb h1 h3 h4 hmo
                  go_wp2_with fail
                  refine (HL.out _).mono ?_
                  rintro e wc ⟨rfl, hb⟩
                  have BW := hideD (bel_out8 BW.out hb)
                  have XA := hideD (XA.out.past hb)
                  have YA := hideD (YA.out.past hb)
                  have HP := hideD (And.intro (HP.out.1.past hb) HP.out.2)
                  have HEM := fempty_any cb M m cz wc (HCZ.out.past hb)
                  rw [HMO.out] at HEM
                  have HEM := hideD HEM
                  have HMT := hideD (zmeets_zc XA.out YA.out HN.out HM.out ZCc.out ZDd.out)
                  obtain ⟨t, ht⟩ : ∃ t, metB M m c d = t := ⟨_, rfl⟩
                  rw [ht] at HEM HMT
                  clear hb HCZ HMO ht
                  go_wp2_with fail
                  refine HEM.out.mono ?_
                  rintro e wd ⟨rfl, ed⟩
                  obtain rfl := ed.symm
                  clear ed HEM
                  go_wp2_with fail
                  refine HMT.out.mono ?_
                  rintro e we ⟨rfl, hb⟩
                  have te : ((!t) == (!t)) = true := by simp
                  have BW := hideD (bel_out8 BW.out hb)
                  have XA := hideD (XA.out.past hb)
                  have HP := hideD (And.intro (HP.out.1.past hb) HP.out.2)
                  have HI := hideD (finc_any pb xb M m pz c _ HN.out HM.out HP.out.1 XA.out ZCc.out)
                  obtain ⟨R, hR⟩ : ∃ R, fincB M m (pz.map (·.2)) (some (xb, c)) = R := ⟨_, rfl⟩
                  have HRR := hideD hR
                  rw [hR] at HI
                  clear hb hR
                  go_wp2_with fail
                  refine HI.out.mono ?_
                  rintro e wx ⟨rfl, hb⟩
                  have BW := hideD (bel_out8 BW.out hb)
                  have XA := hideD (XA.out.past hb)
                  have HP := hideD (And.intro (HP.out.1.past hb) HP.out.2)
                  clear hb HI
                  cases R with
                  | true =>
                    go_wp2_with fail
                    go_ret
                    exact ⟨rfl, BW.out⟩
                  | false =>
                    have HCO := hideD (covered_any pb xb M m pz c wx HN.out HM.out HP.out.1 HP.out.2 XA.out ZCc.out)
                    rw [HRR.out] at HCO
                    go_wp2_with fail
                    refine HCO.out.mono ?_
                    rintro e wy ⟨rfl, hb⟩
                    have BW := hideD (bel_out8 BW.out hb)
                    clear hb
                    go_wp2_with fail
                    go_ret
                    exact ⟨rfl, BW.out⟩
    · have p2 : (k2 == 0) = false := by simpa using e2
      clear HX HY M1 M2 K1 K2 Z1 Z2
      subst e1
      go_wp2_with fail
      refine (HL.out _).mono ?_
      rintro e w5 ⟨rfl, hb⟩
      have BW := hideD (bel_out8 B2.out hb)
      clear hb
      go_wp2_with fail
      go_ret
      exact ⟨rfl, BW.out⟩
  · have p1 : (k1 == 0) = false := by simpa using e1
    clear HX HY M1 M2 K1 K2 Z1 Z2
    go_wp2_with fail
    refine (HL.out _).mono ?_
    rintro e w5 ⟨rfl, hb⟩
    have BW := hideD (bel_out8 B2.out hb)
    clear hb
    go_wp2_with fail
    go_ret
    exact ⟨rfl, BW.out⟩
end Go.Proofs.Ytnfkmpickmonoaa
