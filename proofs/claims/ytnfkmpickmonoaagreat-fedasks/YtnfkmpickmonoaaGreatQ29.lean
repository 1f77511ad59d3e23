/-
  fed: Minus by the document.
-/
import Derived.Deep.RegionHeld3
import Derived.Test.YtnfkmpickmonoaaGreatQ28
namespace Go.Proofs.YtnfkmpickmonoaaGreat
open Go.RowKit Go.Shelf
set_option linter.unusedVariables false
set_option maxRecDepth 100000
attribute [local go_sem] Oper.semAt_some
/-- What a call that makes a union tells, by the document. -/
def RMOut (n m : Nat) (s : List Row × Int) (e : Ending) (W : World) : Prop :=
  (s.2 ≠ 0 ∧ e = .returned (.tuple #[.pointer none, .int .i64 s.2])) ∨ (s.2 = 0 ∧ ∃ fb rs, e = .returned (.tuple #[.pointer (some ⟨fb, 0, none⟩), .int .i64 0]) ∧ RFedAt W fb n m rs ∧ rs.map (·.2) = s.1.map (fun c => listOf c m))
/-- A right row of zones. -/
def ZCs (n m : Nat) (cs : List Row) : Prop := ∀ c ∈ cs, ZC n m c ∧ ¬ c 0 < 1
theorem RG.done {n m : Nat} {cs : List Row} {v : Value} {w W : World} (hm : m = (n + 1) * (n + 1)) (h : RG n m cs v w W) (hl : cs.length ≤ 4096) : RMOut n m (cs, 0) (.returned (.tuple #[.pointer (some ⟨w.heap.size, 0, none⟩), .int .i64 0])) W := by
  obtain ⟨⟨⟨rs, h1, h2, h3, h4⟩, h5, h6⟩, c0, c1, -⟩ := h
  refine .inr ⟨rfl, _, rs, rfl, ⟨c0, ⟨v, c1, ?_⟩, fun e he => ?_, by rw [rs_len h3]; exact hl⟩, h3⟩
  · exact ⟨h1.1, h1.2.imp id (fun ⟨g, cap, cur, a, b, c⟩ => ⟨g, cap, cur, a, Nat.zero_le _, c⟩)⟩
  · have : e.2 ∈ cs.map (fun c => listOf c m) := by rw [← h3]; exact List.mem_map.2 ⟨e, he, rfl⟩
    obtain ⟨c, hc, e2⟩ := List.mem_map.1 this
    refine ⟨h4 e he, by rw [← e2, listOf_len], ?_⟩
    rw [← e2, listOf_get _ _ _ (zlen7 hm)]
    obtain ⟨z1, z2⟩ := h5 c hc
    rcases zc01' hm z1 with q | q
    · rw [q] at z2; exact absurd (by decide) z2
    · exact q
/-- What less tells, in its parts. -/
def LessP (H n m : Nat) (s0 : List Row) (s : List Row × Int) (v : Value) (x : Int) (w W : World) : Prop :=
  (s.2 ≠ 0 ∧ v = .slice none 0 0 ∧ x = s.2) ∨ (s.2 = 0 ∧ x = 0 ∧ ∃ cs, s.1 = s0 ++ cs ∧ DR H n m cs v w W)
theorem lessP_of {H n m : Nat} {s0 : List Row} {s : List Row × Int} {e : Ending} {w W : World} (h : LessOut H n m s0 s e w W) : ∃ v x, e = .returned (.tuple #[v, .int .i64 x]) ∧ LessP H n m s0 s v x w W := by
  rcases h with ⟨h1, h2⟩ | ⟨h1, cs, v, h2, h3, h4⟩
  · exact ⟨_, _, h2, .inl ⟨h1, rfl, rfl⟩⟩
  · exact ⟨_, _, h3, .inr ⟨h1, rfl, cs, h2, h4⟩⟩
set_option maxHeartbeats 4000000 in
theorem rminus_any (fb zb n m : Nat) (zs : List RZR) (cs : List Row) (d : Row) (w : World) (hn : n ≤ 8) (hm : m = (n + 1) * (n + 1)) (hf : RFedAt w fb n m zs) (hcs : zs.map (·.2) = cs.map (fun c => listOf c m)) (hz : ZCs n m cs) (hy : RZone w 0 zb n (listOf d m)) (hd : ZC n m d) :
    Calls Tryz.prog 48 #[.pointer (some ⟨fb, 0, none⟩), .pointer (some ⟨zb, 0, none⟩)] w fun e w' => RMOut n m (minusL n m cs d) e w' ∧ Below w.heap.size w w' := by
  obtain ⟨i0, hi, hz0, hz1, hz2⟩ := info_parts info_rzp
  obtain ⟨v, c1, hown⟩ := hf.c1
  have c0 := hf.c0
  have HD : Hid (∀ W, Below w.heap.size w W → Calls Tryz.prog 32 #[.pointer (some ⟨zb, 0, none⟩)] W fun e w' => e = .returned (.int .i64 n) ∧ w' = W) := fun W hb => rdim_any (hy.past hb)
  obtain ⟨ad, cap, rfl⟩ := own_slR hown
  have ql := rs_len hcs
  obtain ⟨q, hq⟩ : ∃ q, zs.length = q := ⟨_, rfl⟩
  have HEL : Hid (∀ K, K < q → ∃ (g b : Nat) (c : Row), ad = some ⟨g, 0, none⟩ ∧ w.cell? ⟨g, K, none⟩ = some (.pointer (some ⟨b, 0, none⟩)) ∧ RZone w 0 b n (listOf c m) ∧ ZC n m c ∧ ¬ c 0 < 1 ∧ mK n m cs d (K + 1) = layL (mK n m cs d K) (leftY n m c d)) := fun K hK => by
    have h1 : K < zs.length := by omega
    have h2 : K < cs.length := by omega
    rcases own_at hown with ⟨-, e2⟩ | ⟨g, cap', e1, -, -, hc⟩
    · omega
    · injection e1 with e1
      have e : zs[K].2 = listOf cs[K] m := by
        have := congrArg (fun l => l[K]?) hcs
        simp only [List.getElem?_map, List.getElem?_eq_getElem h1, List.getElem?_eq_getElem h2, Option.map_some] at this
        injection this
      have c := hc K (pvR7 zs[K]) h1 (by rw [List.getElem?_map, List.getElem?_eq_getElem h1]; rfl)
      have Z := (hf.zones zs[K] (List.getElem_mem h1)).1
      rw [e] at Z
      obtain ⟨z1, z2⟩ := hz cs[K] (List.getElem_mem h2)
      exact ⟨g, zs[K].1, cs[K], e1, c, Z, z1, z2, mK_next h2⟩
  have HALL : Hid (mK n m cs d q = minusL n m cs d) := mK_all (by omega)
  have HSTOP : Hid (∀ K, K ≤ q → (mK n m cs d K).2 ≠ 0 → minusL n m cs d = mK n m cs d K) := fun K hK h => mK_stop (by omega) h
  have q4 : q ≤ 4096 := by rw [← hq]; exact hf.len
  rw [hq] at c1
  have HN := hideD hn
  have HM := hideD hm
  have HY := hideD hy
  have HZD := hideD hd
  have R0 := hideD (RG.start2 n m ((Below.refl w.heap.size w).drew) rfl)
  have M0 : Hid (mK n m cs d 0 = ([], 0)) := rfl
  clear hf hcs hz hy hd hown ql hq hn hm
  generalize mK n m cs d = M at *
  generalize minusL n m cs d = T at *
  go_enter Tryz.func48, Tryz.ntmps48
  go_wp2_with fail
  go_region_held3 (fun w' => Below w.heap.size w w' ∧ w'.cell? ⟨fb, 0, none⟩ = some (.int .i64 (n : Int)))
    (first | exact ⟨by first | assumption | exact Below.refl _ _ | exact Below.drew (Below.refl _ _) | exact Below.drew (by assumption), by first | assumption | simp [go_sem, *]⟩ | go_keep)
    (first | (go_at_call 32; refine (HD.out _ (by first | assumption | exact Below.refl _ _ | exact Below.drew (Below.refl _ _) | exact Below.drew (by assumption))).mono ?_; rintro e' w' ⟨rfl, rfl⟩))
  all_goals
    clear HD
    go_wp2_with fail
    go_loopw [7] (fun i wr => ∃ (K : Nat) (xs : List Row) (vv : Value), K ≤ q ∧ i = .int .i64 (K : Int) ∧ Hid (RG n m xs vv w wr ∧ xs.length ≤ 4096) ∧ Hid (M K = (xs, 0))) (fun i _ => q - (intOf i).toNat)
    case atStart => exact ⟨0, [], _, Nat.zero_le _, rfl, ⟨R0.out, Nat.zero_le _⟩, M0⟩
    case round =>
      obtain ⟨K, xs, vv, hK, rfl, HR, HK⟩ := hrel
      have c1 := kc _ _ HR.out.1.dr.below c1
      by_cases ck : K < q
      · obtain ⟨g, b, c, e1, e2, hzb, zc, c1', hnext⟩ := HEL.out K ck
        subst e1
        have NX := hideD hnext
        have c0' : ¬ c 0 < 1 := by omega
        have e2 := kc _ _ HR.out.1.dr.below e2
        obtain ⟨⟨rs, h1, h2, h3, h4⟩, h5, h6⟩ := HR.out.1.dr
        obtain ⟨ad', cap', rfl⟩ := own_slR h1
        have hlr := rs_len h3
        have x1 := HR.out.1.c1
        have k1 : (K : Int) < (q : Int) := by omega
        have Q4 : rs.length ≤ 4096 := by have := HR.out.2; omega
        have HL : Hid (∀ W, Below wr.heap.size wr W → Calls Tryz.prog 71 #[.pointer (some ⟨b, 0, none⟩), .pointer (some ⟨zb, 0, none⟩), .int .i64 ((4096 : Int) - (rs.length : Int))] W fun e w' => (∃ v x, e = .returned (.tuple #[v, .int .i64 x]) ∧ Hid (LessP W.heap.size n m xs (M (K + 1)) v x W w')) ∧ Below W.heap.size W w') := fun W hb => by
          have hw := HR.out.1.dr.below.trans (hb.mono HR.out.1.dr.below.size)
          have h := rless_any (w := W) xs HN.out HM.out (hzb.past hw) (HY.out.past hw) zc HZD.out c0' HR.out.2
          rw [← hlr] at h
          refine h.mono ?_
          rintro e w' ⟨h1, h2⟩
          rw [hnext, HK.out]
          exact ⟨lessP_of h1, h2⟩
        have HLR := hideD hlr
        clear h1 h2 h3 h4 h5 h6 hlr hnext hzb zc c1' c0'
        go_wp2_with fail
        have eM : IntKind.i64.wrap ((4096 : Int) - (rs.length : Int)) = (4096 : Int) - (rs.length : Int) := by rw [IntKind.wrap_i64]; omega
        refine wp_region_held (S := fun w' => w'.cell? ⟨fb, 1, none⟩ = some (.slice (some ⟨g, 0, none⟩) q cap) ∧ w'.cell? ⟨g, K, none⟩ = some (.pointer (some ⟨b, 0, none⟩)) ∧ w'.cell? ⟨w.heap.size, 1, none⟩ = some (.slice ad' rs.length cap')) (by kernel_rfl) ?_
        have hHeld : wr.drew.cell? ⟨fb, 1, none⟩ = some (.slice (some ⟨g, 0, none⟩) q cap) ∧ wr.drew.cell? ⟨g, K, none⟩ = some (.pointer (some ⟨b, 0, none⟩)) ∧ wr.drew.cell? ⟨w.heap.size, 1, none⟩ = some (.slice ad' rs.length cap') := ⟨c1, e2, x1⟩
        have B0 := hideD ((Below.refl wr.heap.size wr).drew)
        refine wpAnyH_take (i := 0) (oi := ⟨_, _, _, _, _, _⟩) (v := ?_) rfl (by kernel_rfl) (by kernel_rfl) (by kernel_rfl) (fun _ _ _ h => h) (Or.inl ⟨by rfl, ?_⟩) (by assumption) ?_
        rotate_left
        · intro w hs1; (try dsimp only at hs1); obtain ⟨s0, s1, s2⟩ := hs1; first | (go_simp; done) | (go_simp; with_reducible rfl)
        try simp only [Act.put, List.setIfInBounds_toArray, List.set_cons_zero, List.set_cons_succ]
        refine wpAnyH_take (i := 1) (oi := ⟨_, _, _, _, _, _⟩) (v := ?_) rfl (by kernel_rfl) (by kernel_rfl) (by kernel_rfl) (fun _ _ _ h => h) (Or.inl ⟨by rfl, ?_⟩) (by assumption) ?_
        rotate_left
        · intro w hs1; (try dsimp only at hs1); obtain ⟨s0, s1, s2⟩ := hs1; first | (go_simp; done) | (go_simp; with_reducible rfl)
        try simp only [Act.put, List.setIfInBounds_toArray, List.set_cons_zero, List.set_cons_succ]
        refine wpAnyH_take (i := 2) (oi := ⟨_, _, _, _, _, _⟩) (v := ?_) rfl (by kernel_rfl) (by kernel_rfl) (by kernel_rfl) (fun _ _ _ h => h) (Or.inl ⟨by rfl, ?_⟩) (by assumption) ?_
        rotate_left
        · intro w hs1; (try dsimp only at hs1); obtain ⟨s0, s1, s2⟩ := hs1; first | (go_simp; done) | (go_simp; with_reducible rfl)
        try simp only [Act.put, List.setIfInBounds_toArray, List.set_cons_zero, List.set_cons_succ]
        refine wpAnyH_take (i := 3) (oi := ⟨_, _, _, _, _, _⟩) (v := ?_) rfl (by kernel_rfl) (by kernel_rfl) (by kernel_rfl) (fun _ _ _ h => h) (Or.inl ⟨by rfl, ?_⟩) (by assumption) ?_
        rotate_left
        · intro w hs1; (try dsimp only at hs1); obtain ⟨s0, s1, s2⟩ := hs1; first | (go_simp; done) | (go_simp; with_reducible rfl)
        try simp only [Act.put, List.setIfInBounds_toArray, List.set_cons_zero, List.set_cons_succ]
        refine wpAnyH_take (i := 4) (oi := ⟨_, _, _, _, _, _⟩) (v := ?_) rfl (by kernel_rfl) (by kernel_rfl) (by kernel_rfl) (fun _ _ _ h => h) (Or.inl ⟨by rfl, ?_⟩) (by assumption) ?_
        rotate_left
        · intro w hs1; (try dsimp only at hs1); obtain ⟨s0, s1, s2⟩ := hs1; first | (go_simp; done) | (go_simp; with_reducible rfl)
        try simp only [Act.put, List.setIfInBounds_toArray, List.set_cons_zero, List.set_cons_succ]
        refine wpAnyH_take (i := 5) (oi := ⟨_, _, _, _, _, _⟩) (v := ?_) rfl (by kernel_rfl) (by kernel_rfl) (by kernel_rfl) (fun _ _ _ h => h) (Or.inl ⟨by rfl, ?_⟩) (by assumption) ?_
        rotate_left
        · intro w hs1; (try dsimp only at hs1); obtain ⟨s0, s1, s2⟩ := hs1; first | (go_simp; done) | (go_simp; with_reducible rfl)
        try simp only [Act.put, List.setIfInBounds_toArray, List.set_cons_zero, List.set_cons_succ]
        refine wpAnyH_take (i := 6) (oi := ⟨_, _, _, _, _, _⟩) (v := ?_) rfl (by kernel_rfl) (by kernel_rfl) (by kernel_rfl) (fun _ _ _ h => h) (Or.inl ⟨by rfl, ?_⟩) (by assumption) ?_
        rotate_left
        · intro w hs1; (try dsimp only at hs1); obtain ⟨s0, s1, s2⟩ := hs1; first | (go_simp; done) | (go_simp; with_reducible rfl)
        try simp only [Act.put, List.setIfInBounds_toArray, List.set_cons_zero, List.set_cons_succ]
        refine wpAnyH_take (i := 7) (oi := ⟨_, _, _, _, _, _⟩) (v := ?_) rfl (by kernel_rfl) (by kernel_rfl) (by kernel_rfl) (fun _ _ _ h => h) (Or.inl ⟨by rfl, ?_⟩) (by assumption) ?_
        rotate_left
        · intro w hs1; (try dsimp only at hs1); obtain ⟨s0, s1, s2⟩ := hs1; first | (go_simp; done) | (go_simp; with_reducible rfl)
        try simp only [Act.put, List.setIfInBounds_toArray, List.set_cons_zero, List.set_cons_succ]
        refine wpAnyH_take (i := 8) (oi := ⟨_, _, _, _, _, _⟩) (v := ?_) rfl (by kernel_rfl) (by kernel_rfl) (by kernel_rfl) (fun _ _ _ h => h) (Or.inl ⟨by rfl, ?_⟩) (by assumption) ?_
        rotate_left
        · intro w hs1; (try dsimp only at hs1); obtain ⟨s0, s1, s2⟩ := hs1; first | (go_simp; done) | (go_simp; with_reducible rfl)
        try simp only [Act.put, List.setIfInBounds_toArray, List.set_cons_zero, List.set_cons_succ]
        refine wpAnyH_take (i := 9) (oi := ⟨_, _, _, _, _, _⟩) (v := ?_) rfl (by kernel_rfl) (by kernel_rfl) (by kernel_rfl) (fun _ _ _ h => h) (Or.inl ⟨by rfl, ?_⟩) (by assumption) ?_
        rotate_left
        · intro w hs1; (try dsimp only at hs1); obtain ⟨s0, s1, s2⟩ := hs1; first | (go_simp; done) | (go_simp; with_reducible rfl)
        try simp only [Act.put, List.setIfInBounds_toArray, List.set_cons_zero, List.set_cons_succ]
        refine wpAnyH_take (i := 10) (oi := ⟨_, _, _, _, _, _⟩) (v := ?_) rfl (by kernel_rfl) (by kernel_rfl) (by kernel_rfl) (fun _ _ _ h => h) (Or.inl ⟨by rfl, ?_⟩) (by assumption) ?_
        rotate_left
        · intro w hs1; (try dsimp only at hs1); obtain ⟨s0, s1, s2⟩ := hs1; first | (go_simp; done) | (go_simp; with_reducible rfl)
        try simp only [Act.put, List.setIfInBounds_toArray, List.set_cons_zero, List.set_cons_succ]
        refine wpAnyH_take (i := 11) (oi := ⟨_, _, _, _, _, _⟩) (v := ?_) rfl (by kernel_rfl) (by kernel_rfl) (by kernel_rfl) (fun _ _ _ h => h) (Or.inl ⟨by rfl, ?_⟩) (by assumption) ?_
        rotate_left
        · intro w hs1; (try dsimp only at hs1); obtain ⟨s0, s1, s2⟩ := hs1; first | (go_simp; done) | (go_simp; with_reducible rfl)
        try simp only [Act.put, List.setIfInBounds_toArray, List.set_cons_zero, List.set_cons_succ]
        refine wpAnyH_take (i := 12) (oi := ⟨_, _, _, _, _, _⟩) (v := ?_) rfl (by kernel_rfl) (by kernel_rfl) (by kernel_rfl) (fun _ _ _ h => h) (Or.inl ⟨by rfl, ?_⟩) (by assumption) ?_
        rotate_left
        · intro w hs1; (try dsimp only at hs1); obtain ⟨s0, s1, s2⟩ := hs1; first | (go_simp; done) | (go_simp; with_reducible rfl)
        try simp only [Act.put, List.setIfInBounds_toArray, List.set_cons_zero, List.set_cons_succ]
        refine wpAnyH_take (i := 13) (oi := ⟨_, _, _, _, _, _⟩) (v := ?_) rfl (by kernel_rfl) (by kernel_rfl) (by kernel_rfl) (fun _ _ _ h => h) (Or.inl ⟨by rfl, ?_⟩) (by assumption) ?_
        rotate_left
        · intro w hs1; (try dsimp only at hs1); obtain ⟨s0, s1, s2⟩ := hs1; first | (go_simp; done) | (go_simp; with_reducible rfl)
        try simp only [Act.put, List.setIfInBounds_toArray, List.set_cons_zero, List.set_cons_succ]
        refine wpAnyH_ready (rs := [14]) (by kernel_rfl) (by simp) ?_
        refine AllReadyH.cons (o := ⟨_, _, _, _, _, _⟩) rfl (fun KK hK => ?_) AllReadyH.nil
        go_simp
        refine (HL.out _ B0.out).mono ?_
        rintro e w6 ⟨⟨v2, x2, rfl, HP⟩, hb⟩
        have B6 := hideD (beyondD B0.out hb)
        refine hK.out _ _ ⟨kc _ _ B6.out c1, kc _ _ B6.out e2, kc _ _ B6.out x1⟩ (fun hHeld => ?_)
        clear hK KK
        try simp only [Act.put, List.setIfInBounds_toArray, List.set_cons_zero, List.set_cons_succ]
        refine wpAnyH_take (i := 15) (oi := ⟨_, _, _, _, _, _⟩) (v := ?_) rfl (by kernel_rfl) (by kernel_rfl) (by kernel_rfl) (fun _ _ _ h => h) (Or.inl ⟨by rfl, ?_⟩) (by assumption) ?_
        rotate_left
        · intro w hs1; (try dsimp only at hs1); obtain ⟨s0, s1, s2⟩ := hs1; first | (go_simp; done) | (go_simp; with_reducible rfl)
        try simp only [Act.put, List.setIfInBounds_toArray, List.set_cons_zero, List.set_cons_succ]
        refine wpAnyH_take (i := 16) (oi := ⟨_, _, _, _, _, _⟩) (v := ?_) rfl (by kernel_rfl) (by kernel_rfl) (by kernel_rfl) (fun _ _ _ h => h) (Or.inl ⟨by rfl, ?_⟩) (by assumption) ?_
        rotate_left
        · intro w hs1; (try dsimp only at hs1); obtain ⟨s0, s1, s2⟩ := hs1; first | (go_simp; done) | (go_simp; with_reducible rfl)
        try simp only [Act.put, List.setIfInBounds_toArray, List.set_cons_zero, List.set_cons_succ]
        refine wpAnyH_take (i := 17) (oi := ⟨_, _, _, _, _, _⟩) (v := ?_) rfl (by kernel_rfl) (by kernel_rfl) (by kernel_rfl) (fun _ _ _ h => h) (Or.inl ⟨by rfl, ?_⟩) (by assumption) ?_
        rotate_left
        · intro w hs1; (try dsimp only at hs1); obtain ⟨s0, s1, s2⟩ := hs1; first | (go_simp; done) | (go_simp; with_reducible rfl)
        try simp only [Act.put, List.setIfInBounds_toArray, List.set_cons_zero, List.set_cons_succ]
        refine wpAnyH_take (i := 18) (oi := ⟨_, _, _, _, _, _⟩) (v := ?_) rfl (by kernel_rfl) (by kernel_rfl) (by kernel_rfl) (fun _ _ _ h => h) (Or.inl ⟨by rfl, ?_⟩) (by assumption) ?_
        rotate_left
        · intro w hs1; (try dsimp only at hs1); obtain ⟨s0, s1, s2⟩ := hs1; first | (go_simp; done) | (go_simp; with_reducible rfl)
        try simp only [Act.put, List.setIfInBounds_toArray, List.set_cons_zero, List.set_cons_succ]
        refine wpAnyH_take (i := 19) (oi := ⟨_, _, _, _, _, _⟩) (v := ?_) rfl (by kernel_rfl) (by kernel_rfl) (by kernel_rfl) (fun _ _ _ h => h) (Or.inl ⟨by rfl, ?_⟩) (by assumption) ?_
        rotate_left
        · intro w hs1; (try dsimp only at hs1); obtain ⟨s0, s1, s2⟩ := hs1; first | (go_simp; done) | (go_simp; with_reducible rfl)
        try simp only [Act.put, List.setIfInBounds_toArray, List.set_cons_zero, List.set_cons_succ]
        refine wpAnyH_done (by kernel_rfl) ?_ _
        have R6 := hideD (HR.out.1.past B6.out)
        have y1 := R6.out.c1
        have LX := hideD HR.out.2
        clear HR HL c1 e2 x1 B0 hb
        rcases HP.out with ⟨p1, rfl, rfl⟩ | ⟨p1, rfl, ds, p3, p4⟩
        · have eT := HSTOP.out (K + 1) (by omega) p1
          have HO : Hid (RMOut n m T (.returned (.tuple #[.pointer none, .int .i64 (M (K + 1)).2])) w6) := .inl ⟨by rw [eT]; exact p1, by rw [eT]⟩
          have BE := hideD R6.out.dr.below
          have p2 : ((M (K + 1)).2 == 0) = false := by simpa using p1
          generalize (M (K + 1)).2 = ee at *
          clear HP eT p1
          go_wp2_with fail
          refine bodyPost_ret (v := .tuple #[.pointer none, .int .i64 ee]) (by simp [results, Tryz.results48, go_sem]) rfl ?_
          exact ⟨HO.out, BE.out⟩
        · obtain ⟨⟨ad3, q3, cap3, es, rfl, rfl, hn3, hc3, k3, k4⟩, k5⟩ := p4.row
          obtain ⟨⟨rs', h1, h2, h3, h4⟩, h5, h6⟩ := R6.out.dr
          have el : rs'.length = rs.length := (rs_len h3).trans HLR.out.symm
          have e3 := rs_len k3
          have LL : Hid (xs.length + ds.length ≤ 4096) := by
            have h := layL_le (leftY n m c d) (M K) (by rw [HK.out]; exact LX.out)
            rw [← NX.out, p3, List.length_append] at h
            exact h
          have MK : Hid (M (K + 1) = (xs ++ ds, 0)) := Prod.ext p3 p1
          have DN : Hid (∀ (v' : Value) (W : World), W.ownsRow w.heap.size 44 1 v' (rs.length + es.length) (rs'.map pvR7 ++ es.map pvR7) → w6.grownBy W (Value.slice ad' rs.length cap').ownBlock → (rs.length + es.length = 0 → v' = .slice none 0 0) → (∃ u, W.cell? ⟨w.heap.size, 1, none⟩ = some u) ∧ W.frozen? ⟨w.heap.size, 1, none⟩ = false ∧ Hid (RG n m (xs ++ ds) v' w (W.setCell ⟨w.heap.size, 1, none⟩ v'))) := fun v' W a b c => by
            obtain ⟨x1, x2, x3⟩ := RG.more (zlen7 HM.out) R6.out h1 h2 h3 h4 k3 k4 k5 (by rw [el]; exact a) b (fun h => c (by omega))
            exact ⟨x1, x2, x3⟩
          have OW : Hid (w6.ownsRow w.heap.size 44 1 (.slice ad' rs.length cap') rs.length (rs'.map pvR7)) := by have h := h1; rw [el] at h; exact h
          have O2 : Hid (rs.length = 0 → Value.slice ad' rs.length cap' = .slice none 0 0) := fun h => h2 (by omega)
          have HC3 := hideD hc3
          have sz := h6.size
          have b1 : rs.length ≤ 4096 := by have := LL.out; have := HLR.out; omega
          have b2 : es.length ≤ 4096 := by have := LL.out; omega
          clear el HP p1 p3 p4 h1 h2 h3 h4 h5 h6 k3 k4 k5 hc3 e3 NX
          go_wp2_with (at_builtin; refine wp_app8 _ rfl _ _ 31 rfl w.heap.size 44 i0 (.pointer none) 1 8 Tryz.underlying31 hi hz0 hz1 hz2 rfl (by decide) _ rs.length (rs'.map pvR7) rfl OW.out O2.out ad3 es.length cap3 (es.map pvR7) rfl hn3 (by simp) HC3.out (fun u hu => by obtain ⟨z, -, rfl⟩ := List.mem_map.1 hu; rfl) (by unfold maxLen; omega) (by omega) sz ?_; intro v' wg hown hgr hnil; obtain ⟨⟨u1, g1⟩, g2, G3⟩ := DN.out v' wg hown hgr hnil; obtain ⟨ad5, cap5, rfl⟩ := own_slR hown; clear hown hgr hnil)
          go_roundw
          case rel => exact ⟨K + 1, xs ++ ds, _, by omega, rfl, ⟨G3.out, by rw [List.length_append]; exact LL.out⟩, MK⟩
          case measure => simp [intOf]; omega
      · have ek : K = q := by omega
        have HO := hideD (HR.out.1.done HM.out HR.out.2)
        have eT : (xs, (0 : Int)) = T := by rw [← HALL.out, ← ek]; exact HK.out.symm
        rw [eT] at HO
        have BE := hideD HR.out.1.dr.below
        have k1 : ¬ (K : Int) < (q : Int) := by omega
        clear HR HK
        go_wp2_with fail
        refine bodyPost_ret (v := .tuple #[.pointer (some ⟨w.heap.size, 0, none⟩), .int .i64 0]) (by simp [results, Tryz.results48, go_sem]) rfl ?_
        exact ⟨HO.out, BE.out⟩
end Go.Proofs.YtnfkmpickmonoaaGreat
