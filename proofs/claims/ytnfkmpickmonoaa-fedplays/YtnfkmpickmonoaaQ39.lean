/-
  fed: same of the law.
-/
import Derived.OrdersHeld
import Derived.Deep.RegionHeld
import Derived.Test.YtnfkmpickmonoaaQ38
import Derived.Test.YtnfkmpickmonoaaQ19
namespace Go.Proofs.Ytnfkmpickmonoaa
open Go.RowKit Go.Shelf
set_option linter.unusedVariables false
set_option maxRecDepth 100000
attribute [local go_sem] Oper.semAt_some
/-- The cells of an own row. -/
theorem own_at {w : World} {base q : Nat} {T : TypeId} {v : Value} {xs : List Value} (h : w.ownsRow base T 1 v q xs) : (v = .slice none 0 0 ∧ q = 0) ∨ ∃ g cap, v = .slice (some ⟨g, 0, none⟩) q cap ∧ base ≤ g ∧ (∃ cur, w.heap[g]? = some (.cells cur T)) ∧ ∀ k u, k < q → xs[k]? = some u → w.cell? ⟨g, k, none⟩ = some u := by
  rcases h.2 with ⟨h1, h2⟩ | ⟨g, cap, cur, h1, h2, h3, h4, h5, h6, h7⟩
  · exact .inl ⟨h1, h2⟩
  · refine .inr ⟨g, cap, h1, h2, ⟨cur, h3⟩, fun k u hk hu => ?_⟩
    have e : cur.toList[k]? = some u := by
      have := congrArg (fun l => l[k]?) h7
      simp only [Nat.mul_one] at this
      rw [List.getElem?_take_of_lt hk] at this
      rw [this, hu]
    have e' : cur[k]? = some u := by simpa using e
    simp [World.cell?, h3, e']
theorem own_sl' {w : World} {base q : Nat} {T : TypeId} {v : Value} {xs : List Value} (h : w.ownsRow base T 1 v q xs) : ∃ ad cap, v = .slice ad q cap := by
  rcases own_at h with ⟨rfl, rfl⟩ | ⟨g, cap, rfl, -⟩
  · exact ⟨_, _, rfl⟩
  · exact ⟨_, _, rfl⟩
theorem RZone.weak7 {w : World} {B r n : Nat} {l : List Int} (h : RZone w B r n l) : RZone w 0 r n l := by
  obtain ⟨g, cap, h1, h2, -, -, h5⟩ := h
  exact ⟨g, cap, h1, h2, Nat.zero_le _, Nat.zero_le _, h5⟩
theorem RFedAt.past {A B : World} (hb : Below A.heap.size A B) {fb n m : Nat} {zs : List RZR} (h : RFedAt A fb n m zs) : RFedAt B fb n m zs := by
  obtain ⟨v, h1, h2⟩ := h.c1
  refine ⟨kc _ _ hb h.c0, ⟨v, kc _ _ hb h1, h2.1, ?_⟩, fun e he => ⟨(h.zones e he).1.past hb, (h.zones e he).2⟩, h.len⟩
  rcases h2.2 with q | ⟨g, cap, cur, a1, a2, a3, a4⟩
  · exact .inl q
  · exact .inr ⟨g, cap, cur, a1, a2, (hb.block g (lt_of a3)).trans a3, a4⟩
set_option maxHeartbeats 4000000 in
theorem same7_any (fb gb n m : Nat) (zs : List ZR) (rs : List RZR) (w : World) (hn : n ≤ 8) (hm : m = (n + 1) * (n + 1)) (hf : FedAt w fb n m zs) (hg : RFedAt w gb n m rs) (ha : Alike m zs rs) :
    Calls Try.prog 12 #[.pointer (some ⟨fb, 0, none⟩), .pointer (some ⟨gb, 0, none⟩)] w fun e w' => e = .returned (.bool true) ∧ Below w.heap.size w w' := by
  have m81 : m ≤ 81 := by rw [hm]; exact Nat.mul_le_mul (show n + 1 ≤ 9 by omega) (show n + 1 ≤ 9 by omega)
  have mp : 0 < m := by rw [hm]; exact Nat.mul_pos (by omega) (by omega)
  obtain ⟨v2, rc1, rown⟩ := hg.c1
  have hlen := ha.len
  obtain ⟨ad2, cap2, rfl⟩ := own_sl' rown
  obtain ⟨q, hq⟩ : ∃ q, zs.length = q := ⟨_, rfl⟩
  rw [hlen, hq] at rown rc1
  have q4 : q ≤ 4096 := by rw [← hq]; exact hf.len
  have HZ1 := hideD (fzones_any fb n m zs w hf)
  have HZ2 : Hid (∀ w', Below w.heap.size w w' → _) := fun w' hb => rfzones_any gb _ w' (kc _ _ hb rc1)
  have HD1 : Hid (∀ w', Below w.heap.size w w' → _) := fun w' hb => fdim_any fb n w' (kc _ _ hb hf.c0)
  have HD2 : Hid (∀ w', Below w.heap.size w w' → _) := fun w' hb => rfdim_any gb n w' (kc _ _ hb hg.c0)
  have HE1 : Hid (∀ w', Below w.heap.size w w' → _) := fun w' hb => fempty_any fb n m zs w' (hf.past hb)
  have HE2 : Hid (∀ w', Below w.heap.size w w' → Calls Try.prog 49 #[.pointer (some ⟨gb, 0, none⟩)] w' fun e w'' => e = .returned (.bool (decide (zs.length = 0))) ∧ w'' = w') := fun w' hb => by
    have := rfempty_any gb n m rs w' (hg.past hb)
    rw [hlen] at this
    exact this
  have HL := listOf_len
  have HCC : Hid (∀ K (hk : K < q) w', Below w.heap.size w w' → ∃ zb rb L, L.length = m ∧ (zs.map pvF)[K]? = some (.pointer (some ⟨zb, 0, none⟩)) ∧ w'.cell? ⟨(ad2.getD default).block, K, none⟩ = some (.pointer (some ⟨rb, 0, none⟩)) ∧ ad2 = some ⟨(ad2.getD default).block, 0, none⟩ ∧
      (∀ w'', Below w'.heap.size w' w'' → Calls Try.prog 51 #[.pointer (some ⟨zb, 0, none⟩)] w'' fun e w3 => (∃ g1 cap1, e = .returned (.slice (some ⟨g1, 0, none⟩) m cap1) ∧ g1 < w3.heap.size ∧ RowAt w3 g1 0 L) ∧ Below w''.heap.size w'' w3) ∧
      (∀ w'', Below w'.heap.size w' w'' → Calls Try.prog 52 #[.pointer (some ⟨rb, 0, none⟩)] w'' fun e w3 => (∃ g1 cap1, e = .returned (.slice (some ⟨g1, 0, none⟩) m cap1) ∧ g1 < w3.heap.size ∧ RowAt w3 g1 0 L) ∧ Below w''.heap.size w'' w3)) := fun K hk w' hb => by
    have k1 : K < zs.length := by omega
    have k2 : K < rs.length := by omega
    have z1 := hf.zones _ (List.getElem_mem k1)
    have z2 := hg.zones _ (List.getElem_mem k2)
    have he := ha.get k1 k2
    refine ⟨zs[K].1, rs[K].1, listOf zs[K].2 m, listOf_len _ _, by rw [List.getElem?_map, List.getElem?_eq_getElem k1]; rfl, ?_, ?_, fun w'' h2 => ?_, fun w'' h2 => ?_⟩
    · rcases own_at rown with ⟨-, h⟩ | ⟨g, cap, e1, -, -, h⟩
      · omega
      · injection e1 with e1
        subst e1
        exact kc _ _ hb (h K _ hk (by rw [List.getElem?_map, List.getElem?_eq_getElem k2]; rfl))
    · rcases own_at rown with ⟨-, h⟩ | ⟨g, cap, e1, -, -, h⟩
      · omega
      · injection e1 with e1
        subst e1
        rfl
    · refine (cells_any zs[K].1 n zs[K].2 w'' (z1.1.past (beyondD hb h2)) hn).mono ?_
      rintro e w3 ⟨⟨v, rfl, g1, cap1, rfl, -, h3, h4⟩, h5⟩
      rw [← hm] at h4 ⊢
      rw [listOf_len]
      exact ⟨⟨g1, cap1, rfl, h3, h4⟩, h5⟩
    · have zz := z2.1.past (beyondD hb h2)
      rw [he] at zz
      obtain ⟨g0, cap0, r0, r1, -, -, r4⟩ := zz
      rw [listOf_len] at r1
      refine (rcells_own rs[K].1 g0 n cap0 m (listOf zs[K].2 m) w'' (listOf_len _ _) m81 mp r1 r4).mono ?_
      rintro e w3 ⟨⟨g1, cap1, rfl, -, h3, h4, -⟩, h5⟩
      exact ⟨⟨g1, cap1, rfl, h3, h4⟩, h5⟩
  have HS : Hid (∀ L : List Int, L.length = m → ∀ w' g1 g2 c1 c2, RowAt w' g1 0 L → RowAt w' g2 0 L → Calls Try.prog 50 #[.slice (some ⟨g1, 0, none⟩) m c1, .slice (some ⟨g2, 0, none⟩) m c2] w' fun e w3 => e = .returned (.bool true) ∧ Below w'.heap.size w' w3) := fun L hL w' g1 g2 c1 c2 h1 h2 => by
    have S := sameCells_same g1 g2 c1 c2 m L L w' h1 h2 hL hL m81
    have e : scUpto L L m = true := (scUpto_iff L L m).2 fun j _ => rfl
    rw [e] at S
    refine S.mono ?_
    rintro z w5 ⟨rfl, k, rfl⟩
    exact ⟨rfl, below_draw _ _⟩
  clear hf hg ha rown rc1 hlen hm
  rw [hq] at HZ1 HE1 HE2
  go_enter Try.func12, Try.ntmps12
  go_wp2_with fail
  refine HZ1.out.mono ?_
  rintro e w1 ⟨⟨v, rfl, hown⟩, hb⟩
  have OW := hideD hown
  have B1 := hideD hb
  obtain ⟨ad1, cap1, rfl⟩ := own_sl' hown
  clear HZ1 hown hb
  go_wp2_with fail
  refine (HZ2.out _ B1.out).mono ?_
  rintro e w2 ⟨rfl, rfl⟩
  clear HZ2
  go_wp2_with fail
  refine (HD1.out _ B1.out).mono ?_
  rintro e w2 ⟨rfl, rfl⟩
  clear HD1
  go_wp2_with fail
  refine (HD2.out _ B1.out).mono ?_
  rintro e w2 ⟨rfl, rfl⟩
  clear HD2
  go_wp2_with fail
  refine (HE1.out _ B1.out).mono ?_
  rintro e w2 ⟨rfl, rfl⟩
  clear HE1
  go_wp2_with fail
  refine (HE2.out _ B1.out).mono ?_
  rintro e w2 ⟨rfl, rfl⟩
  clear HE2
  go_wp2_with fail
  go_loopw [7] (fun i wr => ∃ (K : Nat), K ≤ q ∧ i = .int .i64 (K : Int) ∧ Hid (Below w2.heap.size w2 wr)) (fun i _ => q - (intOf i).toNat)
  case atStart => exact ⟨0, Nat.zero_le _, rfl, Below.refl _ _⟩
  case round =>
    obtain ⟨K, hK, rfl, B⟩ := hrel
    by_cases ck : K < q
    · have k0 : (K : Int) < (q : Int) := by omega
      obtain ⟨zb, rb, L, hL, hz, c1, ea, hc1, hc2⟩ := HCC.out K ck wr (beyondD B1.out B.out)
      have HC1 := hideD hc1
      have HC2 := hideD hc2
      have HSL := hideD (HS.out L hL)
      obtain ⟨gl, capl, e1, c0⟩ : ∃ gl capl, Value.slice ad1 q cap1 = .slice (some ⟨gl, 0, none⟩) q capl ∧ wr.cell? ⟨gl, K, none⟩ = some (.pointer (some ⟨zb, 0, none⟩)) := by
        rcases own_at OW.out with ⟨-, h⟩ | ⟨g, cap, e1, -, -, h⟩
        · omega
        · exact ⟨g, cap, e1, kc _ _ B.out (h K _ ck hz)⟩
      injection e1 with e1 e2 e3
      subst e1
      subst e3
      obtain ⟨gr, hgr⟩ : ∃ gr, (ad2.getD default).block = gr := ⟨_, rfl⟩
      rw [hgr] at c1 ea
      subst ea
      clear hgr hz hc1 hc2 hL e2
      have B0 := hideD ((Below.refl wr.heap.size wr).drew)
      go_wp2_with fail
      refine wp_region_held (S := fun w' => w'.cell? ⟨gl, K, none⟩ = some (.pointer (some ⟨zb, 0, none⟩)) ∧ w'.cell? ⟨gr, K, none⟩ = some (.pointer (some ⟨rb, 0, none⟩))) (by kernel_rfl) ?_
      have hHeld : wr.drew.cell? ⟨gl, K, none⟩ = some (.pointer (some ⟨zb, 0, none⟩)) ∧ wr.drew.cell? ⟨gr, K, none⟩ = some (.pointer (some ⟨rb, 0, none⟩)) := ⟨c0, c1⟩
      refine wpAnyH_take (i := 0) (oi := ⟨_, _, _, _, _, _⟩) (v := ?_) rfl (by kernel_rfl) (by kernel_rfl) (by kernel_rfl) (fun _ _ _ h => h) (Or.inl ⟨by rfl, ?_⟩) (by assumption) ?_
      rotate_left
      · intro w hs1; (try dsimp only at hs1); obtain ⟨s0, s1⟩ := hs1; first | (go_simp; done) | (go_simp; with_reducible rfl)
      try simp only [Act.put, List.setIfInBounds_toArray, List.set_cons_zero, List.set_cons_succ]
      refine wpAnyH_take (i := 1) (oi := ⟨_, _, _, _, _, _⟩) (v := ?_) rfl (by kernel_rfl) (by kernel_rfl) (by kernel_rfl) (fun _ _ _ h => h) (Or.inl ⟨by rfl, ?_⟩) (by assumption) ?_
      rotate_left
      · intro w hs1; (try dsimp only at hs1); obtain ⟨s0, s1⟩ := hs1; first | (go_simp; done) | (go_simp; with_reducible rfl)
      try simp only [Act.put, List.setIfInBounds_toArray, List.set_cons_zero, List.set_cons_succ]
      refine wpAnyH_take (i := 2) (oi := ⟨_, _, _, _, _, _⟩) (v := ?_) rfl (by kernel_rfl) (by kernel_rfl) (by kernel_rfl) (fun _ _ _ h => h) (Or.inl ⟨by rfl, ?_⟩) (by assumption) ?_
      rotate_left
      · intro w hs1; (try dsimp only at hs1); obtain ⟨s0, s1⟩ := hs1; first | (go_simp; done) | (go_simp; with_reducible rfl)
      try simp only [Act.put, List.setIfInBounds_toArray, List.set_cons_zero, List.set_cons_succ]
      refine wpAnyH_take (i := 3) (oi := ⟨_, _, _, _, _, _⟩) (v := ?_) rfl (by kernel_rfl) (by kernel_rfl) (by kernel_rfl) (fun _ _ _ h => h) (Or.inl ⟨by rfl, ?_⟩) (by assumption) ?_
      rotate_left
      · intro w hs1; (try dsimp only at hs1); obtain ⟨s0, s1⟩ := hs1; first | (go_simp; done) | (go_simp; with_reducible rfl)
      try simp only [Act.put, List.setIfInBounds_toArray, List.set_cons_zero, List.set_cons_succ]
      refine wpAnyH_take (i := 5) (oi := ⟨_, _, _, _, _, _⟩) (v := ?_) rfl (by kernel_rfl) (by kernel_rfl) (by kernel_rfl) (fun _ _ _ h => h) (Or.inl ⟨by rfl, ?_⟩) (by assumption) ?_
      rotate_left
      · intro w hs1; (try dsimp only at hs1); obtain ⟨s0, s1⟩ := hs1; first | (go_simp; done) | (go_simp; with_reducible rfl)
      try simp only [Act.put, List.setIfInBounds_toArray, List.set_cons_zero, List.set_cons_succ]
      refine wpAnyH_take (i := 6) (oi := ⟨_, _, _, _, _, _⟩) (v := ?_) rfl (by kernel_rfl) (by kernel_rfl) (by kernel_rfl) (fun _ _ _ h => h) (Or.inl ⟨by rfl, ?_⟩) (by assumption) ?_
      rotate_left
      · intro w hs1; (try dsimp only at hs1); obtain ⟨s0, s1⟩ := hs1; first | (go_simp; done) | (go_simp; with_reducible rfl)
      try simp only [Act.put, List.setIfInBounds_toArray, List.set_cons_zero, List.set_cons_succ]
      refine wpAnyH_take (i := 7) (oi := ⟨_, _, _, _, _, _⟩) (v := ?_) rfl (by kernel_rfl) (by kernel_rfl) (by kernel_rfl) (fun _ _ _ h => h) (Or.inl ⟨by rfl, ?_⟩) (by assumption) ?_
      rotate_left
      · intro w hs1; (try dsimp only at hs1); obtain ⟨s0, s1⟩ := hs1; first | (go_simp; done) | (go_simp; with_reducible rfl)
      try simp only [Act.put, List.setIfInBounds_toArray, List.set_cons_zero, List.set_cons_succ]
      refine wpAnyH_take (i := 8) (oi := ⟨_, _, _, _, _, _⟩) (v := ?_) rfl (by kernel_rfl) (by kernel_rfl) (by kernel_rfl) (fun _ _ _ h => h) (Or.inl ⟨by rfl, ?_⟩) (by assumption) ?_
      rotate_left
      · intro w hs1; (try dsimp only at hs1); obtain ⟨s0, s1⟩ := hs1; first | (go_simp; done) | (go_simp; with_reducible rfl)
      try simp only [Act.put, List.setIfInBounds_toArray, List.set_cons_zero, List.set_cons_succ]
      refine wpAnyH_ready (rs := [4]) (by kernel_rfl) (by simp) ?_
      refine AllReadyH.cons (o := ⟨_, _, _, _, _, _⟩) rfl (fun KK hK => ?_) AllReadyH.nil
      go_simp
      refine (HC1.out _ B0.out).mono ?_
      rintro e W3 ⟨⟨g1, cap1, rfl, l1, row1⟩, hb3⟩
      have B3 := hideD (beyondD B0.out hb3)
      have RA := hideD row1
      have LA := hideD l1
      clear row1 l1 hb3
      refine hK.out _ _ ⟨kc _ _ B3.out c0, kc _ _ B3.out c1⟩ (fun hHeld => ?_)
      clear hK KK
      try simp only [Act.put, List.setIfInBounds_toArray, List.set_cons_zero, List.set_cons_succ]
      refine wpAnyH_ready (rs := [9]) (by kernel_rfl) (by simp) ?_
      refine AllReadyH.cons (o := ⟨_, _, _, _, _, _⟩) rfl (fun KK hK => ?_) AllReadyH.nil
      go_simp
      refine (HC2.out _ B3.out).mono ?_
      rintro e W4 ⟨⟨g2, cap2, rfl, l2, row2⟩, hb4⟩
      have B4 := hideD (beyondD B3.out hb4)
      have HSS := hideD (HSL.out W4 g1 g2 cap1 cap2 (RA.out.later hb4 LA.out) row2)
      clear row2 l2 hb4 RA LA B3 HC1 HC2
      refine hK.out _ _ ⟨kc _ _ B4.out c0, kc _ _ B4.out c1⟩ (fun hHeld => ?_)
      clear hK KK
      try simp only [Act.put, List.setIfInBounds_toArray, List.set_cons_zero, List.set_cons_succ]
      refine wpAnyH_ready (rs := [10]) (by kernel_rfl) (by simp) ?_
      refine AllReadyH.cons (o := ⟨_, _, _, _, _, _⟩) rfl (fun KK hK => ?_) AllReadyH.nil
      go_simp
      refine HSS.out.mono ?_
      rintro e W5 ⟨rfl, hb5⟩
      have B5 := hideD (beyondD B4.out hb5)
      clear hb5 HSS
      refine hK.out _ _ ⟨kc _ _ B5.out c0, kc _ _ B5.out c1⟩ (fun hHeld => ?_)
      clear hK KK
      try simp only [Act.put, List.setIfInBounds_toArray, List.set_cons_zero, List.set_cons_succ]
      refine wpAnyH_take (i := 11) (oi := ⟨_, _, _, _, _, _⟩) (v := ?_) rfl (by kernel_rfl) (by kernel_rfl) (by kernel_rfl) (fun _ _ _ h => h) (Or.inl ⟨by rfl, ?_⟩) (by assumption) ?_
      rotate_left
      · intro w hs1; (try dsimp only at hs1); obtain ⟨s0, s1⟩ := hs1; first | (go_simp; done) | (go_simp; with_reducible rfl)
      try simp only [Act.put, List.setIfInBounds_toArray, List.set_cons_zero, List.set_cons_succ]
      refine wpAnyH_done (by kernel_rfl) ?_ _
      clear hHeld
      have BN := hideD (beyondD B.out B5.out)
      clear c0 c1 B B4 B5
      go_wp2_with fail
      go_roundw
      case rel => exact ⟨K + 1, by omega, by go_num, BN⟩
      case measure => simp [intOf]; omega
    · have k0 : ¬ (K : Int) < (q : Int) := by omega
      have BN := hideD (beyondD B1.out B.out)
      clear B
      go_wp2_with fail
      go_ret
      exact ⟨rfl, BN.out⟩
end Go.Proofs.Ytnfkmpickmonoaa
