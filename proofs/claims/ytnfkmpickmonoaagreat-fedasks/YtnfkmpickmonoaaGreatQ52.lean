/-
  The walk of FedAsks.
-/
import Derived.OrdersHeld
import Derived.Deep.RegionHeld
import Derived.Test.YtnfkmpickmonoaaGreatQ32
import Derived.Test.YtnfkmpickmonoaaGreatQ33
import Derived.Test.YtnfkmpickmonoaaGreatQ34
import Derived.Test.YtnfkmpickmonoaaGreatQ31
import Derived.Test.YtnfkmpickmonoaaGreatQ50
import Derived.Test.YtnfkmpickmonoaaGreatQ51
namespace Go.Proofs.YtnfkmpickmonoaaGreat
open Go.RowKit Go.Shelf
set_option linter.unusedVariables false
set_option maxRecDepth 100000
attribute [local go_sem] Oper.semAt_some
/-- Both say the same truth. -/
def TwoB (W : World) (f : Nat) (a : Array Value) (g : Nat) (b : Array Value) : Prop := ∃ t : Bool,
  (∀ X, Below W.heap.size W X → Calls Tryz.prog f a X fun e w' => e = .returned (.bool t) ∧ Below X.heap.size X w') ∧
  (∀ X, Below W.heap.size W X → Calls Tryz.prog g b X fun e w' => e = .returned (.bool t) ∧ Below X.heap.size X w')
theorem two_has {N m : Nat} {W : World} {p r : Option Addr} {u : U7} {ad : Option Addr} {q cap : Nat} {L : Rats} (hF : Fits7 N m u none) (hp : PF7 N m W p u) (hr : RF7 N m W r u) (hq : L.q = q) (q1 : q ≤ 9223372036854775807) (hnil : ad = none → q = 0 ∧ cap = 0) (hV : RatV W ad L) (hI : RatI L) :
    TwoB W 12 #[.pointer p, .slice ad q cap] 13 #[.pointer r, .slice ad q cap] := by
  cases u with
  | none =>
    obtain rfl := hp
    obtain rfl := hr
    exact ⟨false, fun X _ => fhas_nil ad q cap X, fun X _ => rhas_nil _ X⟩
  | some cs =>
    obtain ⟨N8, hm, -⟩ := hF
    obtain ⟨fb, zs, rfl, h2, h3⟩ := hp
    obtain ⟨gb, rs, rfl, g2, g3⟩ := hr
    have zcs := fed_zcs h2
    rw [h3] at zcs
    refine ⟨cs.any fun c => inB N m c L, fun X hb => ?_, fun X hb => ?_⟩
    · have e : (zs.any fun z => inB N m z.2 L) = cs.any fun c => inB N m c L := by
        rw [← h3, List.any_map]
        rfl
      rw [← e]
      exact fhas_any fb N m zs ad q cap (fun z => inB N m z.2 L) X (h2.past hb) fun z hz Y hY => inP_any z.1 N m q cap ad z.2 L Y N8 hm (((h2.past hb).zones z hz).1.past hY) hq q1 hnil ((hV.later hb).later hY) hI
    · exact rhas_any gb N m rs cs ad q cap (fun c => inB N m c L) X (g2.past hb) g3 fun K h b Y hz hY => rin_any N8 hm hz (zcs _ (List.getElem_mem h)).1 (zcs _ (List.getElem_mem h)).2 hq q1 ((hV.later hb).later hY) hI
theorem two_incl {N m : Nat} {W : World} {p r zp zr : Option Addr} {u : U7} {o : OZ7} (hF : Fits7 N m u o) (hp : PF7 N m W p u) (hr : RF7 N m W r u) (hz : PZo W zp o) (hy : RZo W zr o) (zc : ZCo7 o) :
    TwoB W 14 #[.pointer p, .pointer zp] 15 #[.pointer r, .pointer zr] := by
  cases u with
  | none =>
    obtain rfl := hp
    obtain rfl := hr
    exact ⟨false, fun X _ => finc_no _ _ 1 X (by decide) (same_bel7 (fits_nilF _ _)), fun X _ => rincl_nil1 _ X⟩
  | some cs =>
    obtain ⟨N8, hm, hM⟩ := hF
    have hM := hM (by simp)
    obtain ⟨fb, zs, rfl, h2, h3⟩ := hp
    obtain ⟨gb, rs, rfl, g2, g3⟩ := hr
    cases o with
    | none =>
      obtain rfl := hz
      obtain rfl := hy
      exact ⟨false, fun X _ => finc_no _ _ 1 X (by decide) (same_bel7 (fits_nilZ _ _)), fun X _ => rincl_nil2 _ X⟩
    | some x =>
      obtain ⟨M, d⟩ := x
      obtain rfl := hM M d rfl
      obtain ⟨-, -, zb, rfl, hz⟩ := hz
      obtain ⟨-, rb, B, rfl, hy⟩ := hy
      have zd := zc M d rfl
      rw [← hm] at zd hy
      refine ⟨fincB M m cs (some (zb, d)), fun X hb => ?_, fun X hb => ?_⟩
      · have h := finc_any fb zb M m zs d X N8 hm (h2.past hb) (hz.past hb) zd
        rw [h3] at h
        exact h
      · exact rincl_any gb rb M m rs cs d zb X N8 hm (g2.past hb) g3 (by rw [← h3]; exact fed_zcs h2) (hy.weak7.past hb) zd
theorem any_fst {n m : Nat} {cs : List Row} {rs : List ZR} {ds : List Row} (h : rs.map (·.2) = ds) : (rs.any fun z => !fincB n m cs (some z)) = ds.any fun c => !fincB n m cs (some (0, c)) := by
  rw [← h, List.any_map]
  rfl
theorem two_same7 {N m N' m' : Nat} {W : World} {p r p' r' : Option Addr} {u u' : U7} (hF : Fits7 N m u none) (hF' : Fits7 N' m' u' none) (hN : u ≠ none → u' ≠ none → N' = N) (hp : PF7 N m W p u) (hr : RF7 N m W r u) (hp' : PF7 N' m' W p' u') (hr' : RF7 N' m' W r' u') :
    TwoB W 16 #[.pointer p, .pointer p'] 17 #[.pointer r, .pointer r'] := by
  cases u with
  | none =>
    obtain rfl := hp
    obtain rfl := hr
    exact ⟨false, fun X _ => fsame_nil1 _ X, fun X _ => rsame_nil1 _ X⟩
  | some cs =>
    obtain ⟨fb, zs, rfl, h2, h3⟩ := hp
    obtain ⟨gb, rs, rfl, g2, g3⟩ := hr
    cases u' with
    | none =>
      obtain rfl := hp'
      obtain rfl := hr'
      exact ⟨false, fun X _ => fsame_nil2 _ X, fun X _ => rsame_nil2 _ X⟩
    | some ds =>
      obtain rfl := hN (by simp) (by simp)
      obtain ⟨N8, hm, -⟩ := hF
      obtain ⟨-, hm', -⟩ := hF'
      obtain rfl : m' = m := by rw [hm, hm']
      obtain ⟨fb', zs', rfl, k2, k3⟩ := hp'
      obtain ⟨gb', rs', rfl, l2, l3⟩ := hr'
      refine ⟨_, fun X hb => fsame_any fb fb' N' m' zs zs' X N8 hm (h2.past hb) (k2.past hb), fun X hb => ?_⟩
      have h := rsame_any gb gb' N' m' rs rs' cs ds X N8 hm (g2.past hb) g3 (by rw [← h3]; exact fed_zcs h2) (l2.past hb) l3 (by rw [← k3]; exact fed_zcs k2)
      rw [h3, k3, any_fst k3, any_fst h3, Bool.and_comm]
      exact h
theorem bel_out9 {w A C : World} (h : Below w.heap.size w A) (hb : Below A.heap.size A C) : Below w.heap.size w C := h.trans (hb.mono h.size)
set_option maxHeartbeats 16000000 in
theorem fedAsks.walk (n : Int) (hn : (Lit.int .i64 n).wf = true) (ad : Option Addr) (len cap : Nat) (nl : Bool) (V : Nat → Value) (L : Nat → List Int) (ad' : Option Addr) (len' cap' : Nat) (nl' : Bool) (V' : Nat → Value) (L' : Nat → List Int) (v : Value) (l : List Int) (vr : Value) (LR : Rats) (w : World) (hB : Bss w ad len V L) (hB' : Bss w ad' len' V' L') (hS : SliceAt w v l) (wf : ∀ z ∈ l, (Lit.int .i32 z).wf = true) (hby : l.length ≤ 9223372036854775807)
    (hR : RatS w vr LR) (wfr : ∀ k, k < LR.q → (Lit.int .i64 (LR.n k)).wf = true ∧ (Lit.int .i64 (LR.d k)).wf = true) (hbr : LR.q ≤ 9223372036854775807) :
    Calls Tryz.prog 3 #[.int .i64 n, .agg #[.slice ad len cap, .bool nl, .slice ad' len' cap', .bool nl'], .agg #[v, vr]] w fun e w' => e = .returned (.bool true) ∧ Below w.heap.size w w' := by
  obtain ⟨ra, rc, rfl, rn, rv⟩ := hR
  obtain ⟨va, vq, vc, rfl⟩ : ∃ va vq vc, v = .slice va vq vc := by
    rcases hS with ⟨a, c, rfl, -⟩ | ⟨b, off, c, rfl, -⟩
    · exact ⟨_, _, _, rfl⟩
    · exact ⟨_, _, _, rfl⟩
  obtain ⟨q, hq⟩ : ∃ q, LR.q = q := ⟨_, rfl⟩
  have HI : Hid (RatI LR) := fun k hk => ⟨bounds_i64 (wfr k hk).1, bounds_i64 (wfr k hk).2⟩
  have HRV := hideD rv
  have HQ := hideD hq
  rw [hq] at hbr rn ⊢
  have HB := hideD (fun W (h : Below w.heap.size w W) => both7_any n ad len cap nl V L W (fun k hk => by
    obtain ⟨b, off, h1, h2, h3, h4⟩ := hB k hk
    exact ⟨b, off, h1, kc _ _ h h2, h3.past7 h, h4⟩))
  have HB2 := hideD (fun W (h : Below w.heap.size w W) => both7_any n ad' len' cap' nl' V' L' W (fun k hk => by
    obtain ⟨b, off, h1, h2, h3, h4⟩ := hB' k hk
    exact ⟨b, off, h1, kc _ _ h h2, h3.past7 h, h4⟩))
  have HL : Hid (∀ w : World, Calls Tryz.prog 11 #[] w fun e w' => e = .returned (.bool true) ∧ Below w.heap.size w w') := flive_any
  have HS := hideD (fun W (h : Below w.heap.size w W) => two_of7 n (.slice va vq vc) l W (hS.past7 h) (wf_cells7 wf) (by omega))
  have RN := hideD rn
  clear hB hB' hn hS wf hby wfr rv hq rn
  obtain ⟨W0, hW0⟩ : ∃ W0, W0 = (w.alloc (.cells #[.slice ad len cap, .bool nl, .slice ad' len' cap', .bool nl'] 25)).alloc (.cells #[.slice va vq vc, .slice ra q rc] 29) := ⟨_, rfl⟩
  have B0 : Hid (Below w.heap.size w W0) := by rw [hW0]; exact ((Below.refl _ _).alloc (Nat.le_refl _) _).alloc (by simp) _
  have x0 : W0.cell? ⟨w.heap.size, 0, none⟩ = some (.slice ad len cap) := by rw [hW0]; simp [go_sem]
  have x1 : W0.cell? ⟨w.heap.size, 1, none⟩ = some (.bool nl) := by rw [hW0]; simp [go_sem]
  have x2 : W0.cell? ⟨w.heap.size, 2, none⟩ = some (.slice ad' len' cap') := by rw [hW0]; simp [go_sem]
  have x3 : W0.cell? ⟨w.heap.size, 3, none⟩ = some (.bool nl') := by rw [hW0]; simp [go_sem]
  have y0 : W0.cell? ⟨w.heap.size + 1, 0, none⟩ = some (.slice va vq vc) := by rw [hW0]; simp [go_sem]
  have y1 : W0.cell? ⟨w.heap.size + 1, 1, none⟩ = some (.slice ra q rc) := by rw [hW0]; simp [go_sem]
  go_enter Tryz.func3, Tryz.ntmps3
  go_wp2_with fail
  rw [← hW0]
  clear hW0
  refine (HB.out W0 B0.out).mono ?_
  rintro e W1 ⟨⟨es, pa, pb, rfl, hl, h7⟩, hb⟩
  have BW := hideD (bel_out9 B0.out hb)
  have x2 := kc _ _ hb x2
  have x3 := kc _ _ hb x3
  have y0 := kc _ _ hb y0
  have y1 := kc _ _ hb y1
  obtain ⟨N, m, k1, u, hF, huN, hlen, sp, sr⟩ := news7b h7 hl
  have FN := hideD hF
  have UN := hideD huN
  have SP := hideD sp
  have SR := hideD sr
  have B1 : Hid (Below W1.heap.size W1 W1) := Below.refl _ _
  clear hb h7 hl hF huN hlen sp sr HB x0 x1 B0
  go_wp2_with fail
  refine (HB2.out W1 BW.out).mono ?_
  rintro e W2 ⟨⟨es2, pa2, pb2, rfl, hl, h7⟩, hb⟩
  have BW := hideD (bel_out9 BW.out hb)
  have B1 := hideD (bel_out9 B1.out hb)
  have y0 := kc _ _ hb y0
  have y1 := kc _ _ hb y1
  obtain ⟨N2, m2, k2, u2, hF, huN, hlen, sp, sr⟩ := news7b h7 hl
  have FN2 := hideD hF
  have UN2 := hideD huN
  have SP2 := hideD sp
  have SR2 := hideD sr
  have B2 : Hid (Below W2.heap.size W2 W2) := Below.refl _ _
  obtain ⟨k0, o, op, or', zc, hM⟩ := HS.out W2 BW.out
  have OP := hideD op
  have OR := hideD or'
  have ZCO := hideD zc
  have FO : Hid (Fits7 N m u o) := ⟨FN.out.1, FN.out.2.1, fun hu M c ho => by have h1 := UN.out hu; have h2 := hM M c ho; omega⟩
  have NN : Hid (u ≠ none → u2 ≠ none → N2 = N) := fun h1 h2 => by have a := UN.out h1; have b := UN2.out h2; omega
  clear hb h7 hl hF huN hlen sp sr HB2 x2 x3 op or' zc hM HS UN UN2
  go_wp2_with fail
  refine (SP.out _ B1.out).mono ?_
  rintro e wX ⟨⟨p, rfl, hp⟩, hb⟩
  have BW := hideD (bel_out9 BW.out hb.out)
  have B1 := hideD (bel_out9 B1.out hb.out)
  have B2 := hideD (bel_out9 B2.out hb.out)
  have y0 := kc _ _ hb.out y0
  have y1 := kc _ _ hb.out y1
  have HP := hideD hp.out
  clear hb hp SP
  go_wp2_with fail
  refine (SR.out _ B1.out).mono ?_
  rintro e wX ⟨⟨r, rfl, hr⟩, hb⟩
  have BW := hideD (bel_out9 BW.out hb.out)
  have B1 := hideD (bel_out9 B1.out hb.out)
  have B2 := hideD (bel_out9 B2.out hb.out)
  have y0 := kc _ _ hb.out y0
  have y1 := kc _ _ hb.out y1
  have HP := hideD (HP.out.past hb.out)
  have HR := hideD hr.out
  clear hb hr SR
  go_wp2_with fail
  refine (SP2.out _ B2.out).mono ?_
  rintro e wX ⟨⟨p2, rfl, hp⟩, hb⟩
  have BW := hideD (bel_out9 BW.out hb.out)
  have B1 := hideD (bel_out9 B1.out hb.out)
  have B2 := hideD (bel_out9 B2.out hb.out)
  have y0 := kc _ _ hb.out y0
  have y1 := kc _ _ hb.out y1
  have HP := hideD (HP.out.past hb.out)
  have HR := hideD (HR.out.past hb.out)
  have HP2 := hideD hp.out
  clear hb hp SP2
  go_wp2_with fail
  refine (SR2.out _ B2.out).mono ?_
  rintro e wX ⟨⟨r2, rfl, hr⟩, hb⟩
  have BW := hideD (bel_out9 BW.out hb.out)
  have B1 := hideD (bel_out9 B1.out hb.out)
  have B2 := hideD (bel_out9 B2.out hb.out)
  have y0 := kc _ _ hb.out y0
  have y1 := kc _ _ hb.out y1
  have HP := hideD (HP.out.past hb.out)
  have HR := hideD (HR.out.past hb.out)
  have HP2 := hideD (HP2.out.past hb.out)
  have HR2 := hideD hr.out
  clear hb hr SR2
  go_wp2_with fail
  refine (OP.out _ B2.out).mono ?_
  rintro e wX ⟨⟨zp, rfl, hz⟩, hb⟩
  have BW := hideD (bel_out9 BW.out hb.out)
  have B1 := hideD (bel_out9 B1.out hb.out)
  have B2 := hideD (bel_out9 B2.out hb.out)
  have y0 := kc _ _ hb.out y0
  have y1 := kc _ _ hb.out y1
  have HP := hideD (HP.out.past hb.out)
  have HR := hideD (HR.out.past hb.out)
  have HP2 := hideD (HP2.out.past hb.out)
  have HR2 := hideD (HR2.out.past hb.out)
  have HZ := hideD hz.out
  clear hb hz OP
  go_wp2_with fail
  refine (OR.out _ B2.out).mono ?_
  rintro e wX ⟨⟨zr, rfl, hy⟩, hb⟩
  have BW := hideD (bel_out9 BW.out hb.out)
  have B1 := hideD (bel_out9 B1.out hb.out)
  have B2 := hideD (bel_out9 B2.out hb.out)
  have y0 := kc _ _ hb.out y0
  have y1 := kc _ _ hb.out y1
  have HP := hideD (HP.out.past hb.out)
  have HR := hideD (HR.out.past hb.out)
  have HP2 := hideD (HP2.out.past hb.out)
  have HR2 := hideD (HR2.out.past hb.out)
  have HZ := hideD (HZ.out.past hb.out)
  have HY := hideD hy.out
  clear hb hy OR
  go_wp2_with fail
  obtain ⟨t1, ta, tb⟩ := two_has FN.out HP.out HR.out HQ.out (by omega) RN.out (HRV.out.later BW.out) HI.out
  obtain ⟨t2, tc, td⟩ := two_incl FO.out HP.out HR.out HZ.out HY.out ZCO.out
  obtain ⟨t3, te, tf⟩ := two_same7 FN.out FN2.out NN.out HP.out HR.out HP2.out HR2.out
  have TA := hideD ta
  have TB := hideD tb
  have TC := hideD tc
  have TD := hideD td
  have TE := hideD te
  have TF := hideD tf
  have D0 := hideD ((Below.refl wX.heap.size wX).drew)
  clear ta tb tc td te tf HP HR HP2 HR2 HZ HY FN FN2 FO NN ZCO B1 B2 HRV HI
  refine wp_region_held (S := fun w' => w'.cell? ⟨w.heap.size + 1, 1, none⟩ = some (.slice ra q rc) ∧ True) (by kernel_rfl) ?_
  have hHeld : wX.drew.cell? ⟨w.heap.size + 1, 1, none⟩ = some (.slice ra q rc) ∧ True := ⟨y1, trivial⟩
  refine wpAnyH_ready (rs := [0]) (by kernel_rfl) (by simp) ?_
  refine AllReadyH.cons (o := ⟨_, _, _, _, _, _⟩) rfl (fun KK hK => ?_) AllReadyH.nil
  go_simp
  refine (HL.out _).mono ?_
  rintro e v0 ⟨rfl, hb⟩
  have E0 := hideD (bel_out9 D0.out hb)
  clear hb
  refine hK.out _ _ ⟨kc _ _ E0.out y1, trivial⟩ (fun hHeld => ?_)
  clear hK KK
  try simp only [Act.put, List.setIfInBounds_toArray, List.set_cons_zero, List.set_cons_succ]
  refine wpAnyH_take (i := 1) (oi := ⟨_, _, _, _, _, _⟩) (v := ?_) rfl (by kernel_rfl) (by kernel_rfl) (by kernel_rfl) (fun _ _ _ h => h) (Or.inl ⟨by rfl, ?_⟩) (by assumption) ?_
  rotate_left
  · intro w hs1; (try dsimp only at hs1); obtain ⟨s0, -⟩ := hs1; first | (go_simp; done) | (go_simp; with_reducible rfl)
  try simp only [Act.put, List.setIfInBounds_toArray, List.set_cons_zero, List.set_cons_succ]
  refine wpAnyH_take (i := 2) (oi := ⟨_, _, _, _, _, _⟩) (v := ?_) rfl (by kernel_rfl) (by kernel_rfl) (by kernel_rfl) (fun _ _ _ h => h) (Or.inl ⟨by rfl, ?_⟩) (by assumption) ?_
  rotate_left
  · intro w hs1; (try dsimp only at hs1); obtain ⟨s0, -⟩ := hs1; first | (go_simp; done) | (go_simp; with_reducible rfl)
  try simp only [Act.put, List.setIfInBounds_toArray, List.set_cons_zero, List.set_cons_succ]
  refine wpAnyH_take (i := 3) (oi := ⟨_, _, _, _, _, _⟩) (v := ?_) rfl (by kernel_rfl) (by kernel_rfl) (by kernel_rfl) (fun _ _ _ h => h) (Or.inl ⟨by rfl, ?_⟩) (by assumption) ?_
  rotate_left
  · intro w hs1; (try dsimp only at hs1); obtain ⟨s0, -⟩ := hs1; first | (go_simp; done) | (go_simp; with_reducible rfl)
  try simp only [Act.put, List.setIfInBounds_toArray, List.set_cons_zero, List.set_cons_succ]
  refine wpAnyH_take (i := 4) (oi := ⟨_, _, _, _, _, _⟩) (v := ?_) rfl (by kernel_rfl) (by kernel_rfl) (by kernel_rfl) (fun _ _ _ h => h) (Or.inl ⟨by rfl, ?_⟩) (by assumption) ?_
  rotate_left
  · intro w hs1; (try dsimp only at hs1); obtain ⟨s0, -⟩ := hs1; first | (go_simp; done) | (go_simp; with_reducible rfl)
  try simp only [Act.put, List.setIfInBounds_toArray, List.set_cons_zero, List.set_cons_succ]
  refine wpAnyH_take (i := 6) (oi := ⟨_, _, _, _, _, _⟩) (v := ?_) rfl (by kernel_rfl) (by kernel_rfl) (by kernel_rfl) (fun _ _ _ h => h) (Or.inl ⟨by rfl, ?_⟩) (by assumption) ?_
  rotate_left
  · intro w hs1; (try dsimp only at hs1); obtain ⟨s0, -⟩ := hs1; first | (go_simp; done) | (go_simp; with_reducible rfl)
  try simp only [Act.put, List.setIfInBounds_toArray, List.set_cons_zero, List.set_cons_succ]
  refine wpAnyH_take (i := 7) (oi := ⟨_, _, _, _, _, _⟩) (v := ?_) rfl (by kernel_rfl) (by kernel_rfl) (by kernel_rfl) (fun _ _ _ h => h) (Or.inl ⟨by rfl, ?_⟩) (by assumption) ?_
  rotate_left
  · intro w hs1; (try dsimp only at hs1); obtain ⟨s0, -⟩ := hs1; first | (go_simp; done) | (go_simp; with_reducible rfl)
  try simp only [Act.put, List.setIfInBounds_toArray, List.set_cons_zero, List.set_cons_succ]
  refine wpAnyH_take (i := 8) (oi := ⟨_, _, _, _, _, _⟩) (v := ?_) rfl (by kernel_rfl) (by kernel_rfl) (by kernel_rfl) (fun _ _ _ h => h) (Or.inl ⟨by rfl, ?_⟩) (by assumption) ?_
  rotate_left
  · intro w hs1; (try dsimp only at hs1); obtain ⟨s0, -⟩ := hs1; first | (go_simp; done) | (go_simp; with_reducible rfl)
  try simp only [Act.put, List.setIfInBounds_toArray, List.set_cons_zero, List.set_cons_succ]
  refine wpAnyH_ready (rs := [5]) (by kernel_rfl) (by simp) ?_
  refine AllReadyH.cons (o := ⟨_, _, _, _, _, _⟩) rfl (fun KK hK => ?_) AllReadyH.nil
  go_simp
  refine (TA.out _ E0.out).mono ?_
  rintro e v1 ⟨rfl, hb⟩
  have E1 := hideD (bel_out9 E0.out hb)
  clear hb
  refine hK.out _ _ ⟨kc _ _ E1.out y1, trivial⟩ (fun hHeld => ?_)
  clear hK KK
  try simp only [Act.put, List.setIfInBounds_toArray, List.set_cons_zero, List.set_cons_succ]
  refine wpAnyH_ready (rs := [9]) (by kernel_rfl) (by simp) ?_
  refine AllReadyH.cons (o := ⟨_, _, _, _, _, _⟩) rfl (fun KK hK => ?_) AllReadyH.nil
  go_simp
  refine (TB.out _ E1.out).mono ?_
  rintro e v2 ⟨rfl, hb⟩
  have E2 := hideD (bel_out9 E1.out hb)
  clear hb
  refine hK.out _ _ ⟨kc _ _ E2.out y1, trivial⟩ (fun hHeld => ?_)
  clear hK KK
  try simp only [Act.put, List.setIfInBounds_toArray, List.set_cons_zero, List.set_cons_succ]
  refine wpAnyH_take (i := 10) (oi := ⟨_, _, _, _, _, _⟩) (v := ?_) rfl (by kernel_rfl) (by kernel_rfl) (by kernel_rfl) (fun _ _ _ h => h) (Or.inl ⟨by rfl, ?_⟩) (by assumption) ?_
  rotate_left
  · intro w hs1; (try dsimp only at hs1); obtain ⟨s0, -⟩ := hs1; first | (go_simp; done) | (go_simp; with_reducible rfl)
  try simp only [Act.put, List.setIfInBounds_toArray, List.set_cons_zero, List.set_cons_succ]
  refine wpAnyH_take (i := 11) (oi := ⟨_, _, _, _, _, _⟩) (v := ?_) rfl (by kernel_rfl) (by kernel_rfl) (by kernel_rfl) (fun _ _ _ h => h) (Or.inl ⟨by rfl, ?_⟩) (by assumption) ?_
  rotate_left
  · intro w hs1; (try dsimp only at hs1); obtain ⟨s0, -⟩ := hs1; first | (go_simp; done) | (go_simp; with_reducible rfl)
  try simp only [Act.put, List.setIfInBounds_toArray, List.set_cons_zero, List.set_cons_succ]
  refine wpAnyH_take (i := 12) (oi := ⟨_, _, _, _, _, _⟩) (v := ?_) rfl (by kernel_rfl) (by kernel_rfl) (by kernel_rfl) (fun _ _ _ h => h) (Or.inl ⟨by rfl, ?_⟩) (by assumption) ?_
  rotate_left
  · intro w hs1; (try dsimp only at hs1); obtain ⟨s0, -⟩ := hs1; first | (go_simp; done) | (go_simp; with_reducible rfl)
  try simp only [Act.put, List.setIfInBounds_toArray, List.set_cons_zero, List.set_cons_succ]
  refine wpAnyH_take (i := 13) (oi := ⟨_, _, _, _, _, _⟩) (v := ?_) rfl (by kernel_rfl) (by kernel_rfl) (by kernel_rfl) (fun _ _ _ h => h) (Or.inl ⟨by rfl, ?_⟩) (by assumption) ?_
  rotate_left
  · intro w hs1; (try dsimp only at hs1); obtain ⟨s0, -⟩ := hs1; first | (go_simp; done) | (go_simp; with_reducible rfl)
  try simp only [Act.put, List.setIfInBounds_toArray, List.set_cons_zero, List.set_cons_succ]
  refine wpAnyH_take (i := 14) (oi := ⟨_, _, _, _, _, _⟩) (v := ?_) rfl (by kernel_rfl) (by kernel_rfl) (by kernel_rfl) (fun _ _ _ h => h) (Or.inl ⟨by rfl, ?_⟩) (by assumption) ?_
  rotate_left
  · intro w hs1; (try dsimp only at hs1); obtain ⟨s0, -⟩ := hs1; first | (go_simp; done) | (go_simp; with_reducible rfl)
  try simp only [Act.put, List.setIfInBounds_toArray, List.set_cons_zero, List.set_cons_succ]
  refine wpAnyH_take (i := 16) (oi := ⟨_, _, _, _, _, _⟩) (v := ?_) rfl (by kernel_rfl) (by kernel_rfl) (by kernel_rfl) (fun _ _ _ h => h) (Or.inl ⟨by rfl, ?_⟩) (by assumption) ?_
  rotate_left
  · intro w hs1; (try dsimp only at hs1); obtain ⟨s0, -⟩ := hs1; first | (go_simp; done) | (go_simp; with_reducible rfl)
  try simp only [Act.put, List.setIfInBounds_toArray, List.set_cons_zero, List.set_cons_succ]
  refine wpAnyH_take (i := 17) (oi := ⟨_, _, _, _, _, _⟩) (v := ?_) rfl (by kernel_rfl) (by kernel_rfl) (by kernel_rfl) (fun _ _ _ h => h) (Or.inl ⟨by rfl, ?_⟩) (by assumption) ?_
  rotate_left
  · intro w hs1; (try dsimp only at hs1); obtain ⟨s0, -⟩ := hs1; first | (go_simp; done) | (go_simp; with_reducible rfl)
  try simp only [Act.put, List.setIfInBounds_toArray, List.set_cons_zero, List.set_cons_succ]
  refine wpAnyH_ready (rs := [15]) (by kernel_rfl) (by simp) ?_
  refine AllReadyH.cons (o := ⟨_, _, _, _, _, _⟩) rfl (fun KK hK => ?_) AllReadyH.nil
  go_simp
  refine (TC.out _ E2.out).mono ?_
  rintro e v3 ⟨rfl, hb⟩
  have E3 := hideD (bel_out9 E2.out hb)
  clear hb
  refine hK.out _ _ ⟨kc _ _ E3.out y1, trivial⟩ (fun hHeld => ?_)
  clear hK KK
  try simp only [Act.put, List.setIfInBounds_toArray, List.set_cons_zero, List.set_cons_succ]
  refine wpAnyH_ready (rs := [18]) (by kernel_rfl) (by simp) ?_
  refine AllReadyH.cons (o := ⟨_, _, _, _, _, _⟩) rfl (fun KK hK => ?_) AllReadyH.nil
  go_simp
  refine (TD.out _ E3.out).mono ?_
  rintro e v4 ⟨rfl, hb⟩
  have E4 := hideD (bel_out9 E3.out hb)
  clear hb
  refine hK.out _ _ ⟨kc _ _ E4.out y1, trivial⟩ (fun hHeld => ?_)
  clear hK KK
  try simp only [Act.put, List.setIfInBounds_toArray, List.set_cons_zero, List.set_cons_succ]
  refine wpAnyH_take (i := 19) (oi := ⟨_, _, _, _, _, _⟩) (v := ?_) rfl (by kernel_rfl) (by kernel_rfl) (by kernel_rfl) (fun _ _ _ h => h) (Or.inl ⟨by rfl, ?_⟩) (by assumption) ?_
  rotate_left
  · intro w hs1; (try dsimp only at hs1); obtain ⟨s0, -⟩ := hs1; first | (go_simp; done) | (go_simp; with_reducible rfl)
  try simp only [Act.put, List.setIfInBounds_toArray, List.set_cons_zero, List.set_cons_succ]
  refine wpAnyH_take (i := 20) (oi := ⟨_, _, _, _, _, _⟩) (v := ?_) rfl (by kernel_rfl) (by kernel_rfl) (by kernel_rfl) (fun _ _ _ h => h) (Or.inl ⟨by rfl, ?_⟩) (by assumption) ?_
  rotate_left
  · intro w hs1; (try dsimp only at hs1); obtain ⟨s0, -⟩ := hs1; first | (go_simp; done) | (go_simp; with_reducible rfl)
  try simp only [Act.put, List.setIfInBounds_toArray, List.set_cons_zero, List.set_cons_succ]
  refine wpAnyH_take (i := 21) (oi := ⟨_, _, _, _, _, _⟩) (v := ?_) rfl (by kernel_rfl) (by kernel_rfl) (by kernel_rfl) (fun _ _ _ h => h) (Or.inl ⟨by rfl, ?_⟩) (by assumption) ?_
  rotate_left
  · intro w hs1; (try dsimp only at hs1); obtain ⟨s0, -⟩ := hs1; first | (go_simp; done) | (go_simp; with_reducible rfl)
  try simp only [Act.put, List.setIfInBounds_toArray, List.set_cons_zero, List.set_cons_succ]
  refine wpAnyH_take (i := 22) (oi := ⟨_, _, _, _, _, _⟩) (v := ?_) rfl (by kernel_rfl) (by kernel_rfl) (by kernel_rfl) (fun _ _ _ h => h) (Or.inl ⟨by rfl, ?_⟩) (by assumption) ?_
  rotate_left
  · intro w hs1; (try dsimp only at hs1); obtain ⟨s0, -⟩ := hs1; first | (go_simp; done) | (go_simp; with_reducible rfl)
  try simp only [Act.put, List.setIfInBounds_toArray, List.set_cons_zero, List.set_cons_succ]
  refine wpAnyH_take (i := 23) (oi := ⟨_, _, _, _, _, _⟩) (v := ?_) rfl (by kernel_rfl) (by kernel_rfl) (by kernel_rfl) (fun _ _ _ h => h) (Or.inl ⟨by rfl, ?_⟩) (by assumption) ?_
  rotate_left
  · intro w hs1; (try dsimp only at hs1); obtain ⟨s0, -⟩ := hs1; first | (go_simp; done) | (go_simp; with_reducible rfl)
  try simp only [Act.put, List.setIfInBounds_toArray, List.set_cons_zero, List.set_cons_succ]
  refine wpAnyH_take (i := 25) (oi := ⟨_, _, _, _, _, _⟩) (v := ?_) rfl (by kernel_rfl) (by kernel_rfl) (by kernel_rfl) (fun _ _ _ h => h) (Or.inl ⟨by rfl, ?_⟩) (by assumption) ?_
  rotate_left
  · intro w hs1; (try dsimp only at hs1); obtain ⟨s0, -⟩ := hs1; first | (go_simp; done) | (go_simp; with_reducible rfl)
  try simp only [Act.put, List.setIfInBounds_toArray, List.set_cons_zero, List.set_cons_succ]
  refine wpAnyH_take (i := 26) (oi := ⟨_, _, _, _, _, _⟩) (v := ?_) rfl (by kernel_rfl) (by kernel_rfl) (by kernel_rfl) (fun _ _ _ h => h) (Or.inl ⟨by rfl, ?_⟩) (by assumption) ?_
  rotate_left
  · intro w hs1; (try dsimp only at hs1); obtain ⟨s0, -⟩ := hs1; first | (go_simp; done) | (go_simp; with_reducible rfl)
  try simp only [Act.put, List.setIfInBounds_toArray, List.set_cons_zero, List.set_cons_succ]
  refine wpAnyH_ready (rs := [24]) (by kernel_rfl) (by simp) ?_
  refine AllReadyH.cons (o := ⟨_, _, _, _, _, _⟩) rfl (fun KK hK => ?_) AllReadyH.nil
  go_simp
  refine (TE.out _ E4.out).mono ?_
  rintro e v5 ⟨rfl, hb⟩
  have E5 := hideD (bel_out9 E4.out hb)
  clear hb
  refine hK.out _ _ ⟨kc _ _ E5.out y1, trivial⟩ (fun hHeld => ?_)
  clear hK KK
  try simp only [Act.put, List.setIfInBounds_toArray, List.set_cons_zero, List.set_cons_succ]
  refine wpAnyH_ready (rs := [27]) (by kernel_rfl) (by simp) ?_
  refine AllReadyH.cons (o := ⟨_, _, _, _, _, _⟩) rfl (fun KK hK => ?_) AllReadyH.nil
  go_simp
  refine (TF.out _ E5.out).mono ?_
  rintro e v6 ⟨rfl, hb⟩
  have E6 := hideD (bel_out9 E5.out hb)
  clear hb
  refine hK.out _ _ ⟨kc _ _ E6.out y1, trivial⟩ (fun hHeld => ?_)
  clear hK KK
  try simp only [Act.put, List.setIfInBounds_toArray, List.set_cons_zero, List.set_cons_succ]
  refine wpAnyH_take (i := 28) (oi := ⟨_, _, _, _, _, _⟩) (v := ?_) rfl (by kernel_rfl) (by kernel_rfl) (by kernel_rfl) (fun _ _ _ h => h) (Or.inl ⟨by rfl, ?_⟩) (by assumption) ?_
  rotate_left
  · intro w hs1; (try dsimp only at hs1); obtain ⟨s0, -⟩ := hs1; first | (go_simp; done) | (go_simp; with_reducible rfl)
  try simp only [Act.put, List.setIfInBounds_toArray, List.set_cons_zero, List.set_cons_succ]
  refine wpAnyH_take (i := 29) (oi := ⟨_, _, _, _, _, _⟩) (v := ?_) rfl (by kernel_rfl) (by kernel_rfl) (by kernel_rfl) (fun _ _ _ h => h) (Or.inl ⟨by rfl, ?_⟩) (by assumption) ?_
  rotate_left
  · intro w hs1; (try dsimp only at hs1); obtain ⟨s0, -⟩ := hs1; first | (go_simp; done) | (go_simp; with_reducible rfl)
  try simp only [Act.put, List.setIfInBounds_toArray, List.set_cons_zero, List.set_cons_succ]
  refine wpAnyH_take (i := 30) (oi := ⟨_, _, _, _, _, _⟩) (v := ?_) rfl (by kernel_rfl) (by kernel_rfl) (by kernel_rfl) (fun _ _ _ h => h) (Or.inl ⟨by rfl, ?_⟩) (by assumption) ?_
  rotate_left
  · intro w hs1; (try dsimp only at hs1); obtain ⟨s0, -⟩ := hs1; first | (go_simp; done) | (go_simp; with_reducible rfl)
  try simp only [Act.put, List.setIfInBounds_toArray, List.set_cons_zero, List.set_cons_succ]
  refine wpAnyH_done (by kernel_rfl) ?_ _
  have BE := hideD (bel_out9 BW.out E6.out)
  go_wp2_with fail
  go_ret
  exact ⟨by first | rfl | simp, BE.out⟩
end Go.Proofs.YtnfkmpickmonoaaGreat
