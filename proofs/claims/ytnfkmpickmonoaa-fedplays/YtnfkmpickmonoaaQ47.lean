/-
  fed: Plus by the document; nil unions.
-/
import Derived.OrdersHeld
import Derived.Deep.RegionHeld
import Derived.Test.YtnfkmpickmonoaaQ46
import Derived.Test.YtnfkmpickmonoaaQ34
namespace Go.Proofs.Ytnfkmpickmonoaa
open Go.RowKit Go.Shelf
set_option linter.unusedVariables false
set_option maxRecDepth 100000
attribute [local go_sem] Oper.semAt_some
theorem rplus_nil (l : Value) (w : World) : Calls Try.prog 14 #[.pointer none, l] w fun e w' => e = .returned (.tuple #[.pointer none, .int .i64 1]) ∧ Below w.heap.size w w' := by
  go_enter Try.func14, Try.ntmps14
  go_wp2_with fail
  refine bodyPost_ret (v := .tuple #[.pointer none, .int .i64 1]) (by simp [results, Try.results14, go_sem]) rfl ?_
  exact ⟨rfl, Below.refl _ _⟩
theorem rminus_nilF (z : Value) (w : World) : Calls Try.prog 16 #[.pointer none, z] w fun e w' => e = .returned (.tuple #[.pointer none, .int .i64 1]) ∧ Below w.heap.size w w' := by
  go_enter Try.func16, Try.ntmps16
  go_wp2_with fail
  refine bodyPost_ret (v := .tuple #[.pointer none, .int .i64 1]) (by simp [results, Try.results16, go_sem]) rfl ?_
  exact ⟨rfl, Below.refl _ _⟩
theorem rminus_nilZ (f : Addr) (w : World) : Calls Try.prog 16 #[.pointer (some f), .pointer none] w fun e w' => e = .returned (.tuple #[.pointer none, .int .i64 1]) ∧ Below w.heap.size w w' := by
  go_enter Try.func16, Try.ntmps16
  go_wp2_with fail
  refine bodyPost_ret (v := .tuple #[.pointer none, .int .i64 1]) (by simp [results, Try.results16, go_sem]) rfl ?_
  exact ⟨rfl, Below.refl _ _⟩
theorem rmeet_nilF (z : Value) (w : World) : Calls Try.prog 18 #[.pointer none, z] w fun e w' => e = .returned (.tuple #[.pointer none, .int .i64 1]) ∧ Below w.heap.size w w' := by
  go_enter Try.func18, Try.ntmps18
  go_wp2_with fail
  refine bodyPost_ret (v := .tuple #[.pointer none, .int .i64 1]) (by simp [results, Try.results18, go_sem]) rfl ?_
  exact ⟨rfl, Below.refl _ _⟩
theorem rmeet_nilZ (f : Addr) (w : World) : Calls Try.prog 18 #[.pointer (some f), .pointer none] w fun e w' => e = .returned (.tuple #[.pointer none, .int .i64 1]) ∧ Below w.heap.size w w' := by
  go_enter Try.func18, Try.ntmps18
  go_wp2_with fail
  refine bodyPost_ret (v := .tuple #[.pointer none, .int .i64 1]) (by simp [results, Try.results18, go_sem]) rfl ?_
  exact ⟨rfl, Below.refl _ _⟩
theorem rfewer_nil (w : World) : Calls Try.prog 20 #[.pointer none] w fun e w' => e = .returned (.pointer none) ∧ Below w.heap.size w w' := by
  go_enter Try.func20, Try.ntmps20
  go_wp2_with fail
  go_ret
  exact ⟨rfl, Below.refl _ _⟩
/-- A row of the document's zones that is a call's own, as a row that New takes. -/
theorem rprow_own {W : World} {base n m q : Nat} {v : Value} {ps : List RPZ7} (h : W.ownsRow base 34 1 v q (ps.map rptr7)) (hq : ps.length = q) (hq0 : 0 < q) (hz : ∀ z, some z ∈ ps → RZone W 0 z.1 n z.2 ∧ z.2.length = m) : ∃ g cap, v = .slice (some ⟨g, 0, none⟩) q cap ∧ RPRow W (some ⟨g, 0, none⟩) n m ps := by
  rcases own_at h with ⟨-, e2⟩ | ⟨g, cap, e1, -, -, hc⟩
  · omega
  · refine ⟨g, cap, e1, fun k hk => ⟨g, rfl, ?_⟩, hz⟩
    exact hc k _ (by omega) (by rw [List.getElem?_map, List.getElem?_eq_getElem hk]; rfl)
set_option maxHeartbeats 4000000 in
theorem rfplus_any (fb n m gl cl : Nat) (zs : List RZR) (ps : List RPZ7) (R : Value → Value → World → Prop) (w : World) (hf : RFedAt w fb n m zs) (hl : RPRow w (some ⟨gl, 0, none⟩) n m ps) (hp0 : 0 < ps.length) (hp : ps.length ≤ 100)
    (hN : ∀ (W : World) (g cap : Nat), Below w.heap.size w W → RPRow W (some ⟨g, 0, none⟩) n m (zs.map some ++ ps) → Calls Try.prog 10 #[.int .i64 (n : Int), .slice (some ⟨g, 0, none⟩) (zs.length + ps.length) cap] W fun e w' => (∃ p x, e = .returned (.tuple #[p, x]) ∧ R p x w') ∧ Below W.heap.size W w') :
    Calls Try.prog 14 #[.pointer (some ⟨fb, 0, none⟩), .slice (some ⟨gl, 0, none⟩) ps.length cl] w fun e w' => (∃ p x, e = .returned (.tuple #[p, x]) ∧ R p x w') ∧ Below w.heap.size w w' := by
  obtain ⟨i0, hi, hz0, hz1, hz2⟩ := info_parts info_rzp
  obtain ⟨v, c1, hown⟩ := hf.c1
  obtain ⟨ad, cap, rfl⟩ := own_slR hown
  have HL := hideD hl
  have HF := hideD hf
  have HN := hideD hN
  have c0 := hf.c0
  have q4 := hf.len
  have HC : Hid (∀ d, ad = some d → ∀ (j : Nat) (x : Value), (zs.map pvR7)[j]? = some x → w.cell? (d.add j) = some x) := fun d hd j x hx => by
    rcases own_at hown with ⟨e1, -⟩ | ⟨g, cap', e1, -, -, hc⟩
    · injection e1 with e1; rw [hd] at e1; cases e1
    · injection e1 with e1
      rw [hd] at e1
      injection e1 with e1
      subst e1
      rw [Addr.add_lit]
      have hj : j < zs.length := by
        by_cases q : j < zs.length
        · exact q
        · rw [List.getElem?_eq_none (by simpa using q)] at hx
          cases hx
      have := hc j x hj hx
      simpa using this
  have hn3 : ad = none → zs.length = 0 ∧ cap = 0 := fun h => by
    rcases own_at hown with ⟨e1, e2⟩ | ⟨g, cap', e1, -⟩
    · injection e1 with _ _ e3; exact ⟨e2, e3⟩
    · injection e1 with e1; rw [h] at e1; cases e1
  obtain ⟨q, hq⟩ : ∃ q, ps.length = q := ⟨_, rfl⟩
  have HQ := hideD hq
  rw [hq] at hp0 hp ⊢
  clear hf hl hN hq hown
  go_enter Try.func14, Try.ntmps14
  go_wp2_with (at_builtin; refine wp_app8 _ rfl _ _ 27 rfl w.heap.size 34 i0 (.pointer none) 1 8 Try.underlying27 hi hz0 hz1 hz2 rfl (by decide) (.slice none 0 0) 0 [] rfl (World.ownsRow_nil _ _ _ _) (fun _ => rfl) ad zs.length cap (zs.map pvR7) rfl hn3 (by simp) HC.out (fun u hu => by obtain ⟨z, -, rfl⟩ := List.mem_map.1 hu; rfl) (by unfold maxLen; omega) (by omega) (Nat.le_refl _) ?_; intro v1 w1 hown1 hgr1 hnil1; have OW1 := hideD hown1; have GR1 := hideD hgr1; have NL1 := hideD hnil1; clear hown1 hgr1 hnil1)
  have b1 : Below w.heap.size w w1 := (Below.refl w.heap.size w).grown GR1.out (Nat.le_refl _) (fun k hk => by cases hk)
  have B1 := hideD b1
  have OW : Hid (w1.ownsRow w.heap.size 34 1 v1 zs.length (zs.map pvR7)) := by have h := OW1.out; simp only [Nat.zero_add, List.nil_append] at h; exact h
  have S0 : Hid (w1.drew.cell? ⟨fb, 0, none⟩ = some (.int .i64 (n : Int))) := (show w1.cell? ⟨fb, 0, none⟩ = some (.int .i64 (n : Int)) from kc _ _ b1 c0)
  clear OW1 GR1 NL1 b1 c0 c1 HC hn3
  refine wp_region_held (S := fun w' => w'.cell? ⟨fb, 0, none⟩ = some (.int .i64 (n : Int)) ∧ True) (by kernel_rfl) ?_
  have hHeld : w1.drew.cell? ⟨fb, 0, none⟩ = some (.int .i64 (n : Int)) ∧ True := ⟨S0.out, trivial⟩
  refine wpAnyH_take (i := 0) (oi := ⟨_, _, _, _, _, _⟩) (v := ?_) rfl (by kernel_rfl) (by kernel_rfl) (by kernel_rfl) (fun _ _ _ h => h) (Or.inl ⟨by rfl, ?_⟩) (by assumption) ?_
  rotate_left
  · intro w hs1; (try dsimp only at hs1); obtain ⟨s0, -⟩ := hs1; first | (go_simp; done) | (go_simp; with_reducible rfl)
  try simp only [Act.put, List.setIfInBounds_toArray, List.set_cons_zero, List.set_cons_succ]
  refine wpAnyH_take (i := 1) (oi := ⟨_, _, _, _, _, _⟩) (v := ?_) rfl (by kernel_rfl) (by kernel_rfl) (by kernel_rfl) (fun _ _ _ h => h) (Or.inl ⟨by rfl, ?_⟩) (by assumption) ?_
  rotate_left
  · intro w hs1; (try dsimp only at hs1); obtain ⟨s0, -⟩ := hs1; first | (go_simp; done) | (go_simp; with_reducible rfl)
  try simp only [Act.put, List.setIfInBounds_toArray, List.set_cons_zero, List.set_cons_succ]
  refine wpAnyH_take (i := 2) (oi := ⟨_, _, _, _, _, _⟩) (v := ?_) rfl (by kernel_rfl) (by kernel_rfl) (by kernel_rfl) (fun _ _ _ h => h) (Or.inl ⟨by rfl, ?_⟩) (by assumption) ?_
  rotate_left
  · intro w hs1; (try dsimp only at hs1); obtain ⟨s0, -⟩ := hs1; first | (go_simp; done) | (go_simp; with_reducible rfl)
  try simp only [Act.put, List.setIfInBounds_toArray, List.set_cons_zero, List.set_cons_succ]
  refine wpAnyH_take (i := 3) (oi := ⟨_, _, _, _, _, _⟩) (v := ?_) rfl (by kernel_rfl) (by kernel_rfl) (by kernel_rfl) (fun _ _ _ h => h) (Or.inl ⟨by rfl, ?_⟩) (by assumption) ?_
  rotate_left
  · intro w hs1; (try dsimp only at hs1); obtain ⟨s0, -⟩ := hs1; first | (go_simp; done) | (go_simp; with_reducible rfl)
  try simp only [Act.put, List.setIfInBounds_toArray, List.set_cons_zero, List.set_cons_succ]
  refine wpAnyH_take (i := 4) (oi := ⟨_, _, _, _, _, _⟩) (v := ?_) rfl (by kernel_rfl) (by kernel_rfl) (by kernel_rfl) (fun _ _ _ h => h) (Or.inl ⟨by rfl, ?_⟩) (by assumption) ?_
  rotate_left
  · intro w hs1; (try dsimp only at hs1); obtain ⟨s0, -⟩ := hs1; first | (go_simp; done) | (go_simp; with_reducible rfl)
  try simp only [Act.put, List.setIfInBounds_toArray, List.set_cons_zero, List.set_cons_succ]
  refine wpAnyH_take (i := 5) (oi := ⟨_, _, _, _, _, _⟩) (v := ?_) rfl (by kernel_rfl) (by kernel_rfl) (by kernel_rfl) (fun _ _ _ h => h) (Or.inl ⟨by rfl, ?_⟩) (by assumption) ?_
  rotate_left
  · intro w hs1; (try dsimp only at hs1); obtain ⟨s0, -⟩ := hs1; first | (go_simp; done) | (go_simp; with_reducible rfl)
  try simp only [Act.put, List.setIfInBounds_toArray, List.set_cons_zero, List.set_cons_succ]
  refine wpAnyH_ready (rs := [6]) (by kernel_rfl) (by simp) ?_
  refine AllReadyH.cons (o := ⟨_, _, _, _, _, _⟩) rfl (fun KK hK => ?_) AllReadyH.nil
  refine step_own7 rfl (.tmp 19) (.tmp 20) 27 rfl w.heap.size 34 i0 (.pointer none) 1 8 Try.underlying27 hi hz0 hz1 hz2 rfl (by decide) v1 zs.length (zs.map pvR7) (by simp [Act.eval]) (show w1.drew.ownsRow w.heap.size 34 1 v1 zs.length (zs.map pvR7) from OW.out) ⟨gl, 0, none⟩ q cl (ps.map rptr7) (by simp [Act.eval]) (by simp [HQ.out]) (fun j u hu => ?_) (fun u hu => by obtain ⟨z, -, rfl⟩ := List.mem_map.1 hu; rfl) (by unfold maxLen; omega) (by omega) (by have := B1.out.size; exact this) ?_
  · have hj : j < ps.length := by
      by_cases c : j < ps.length
      · exact c
      · rw [List.getElem?_eq_none (by simpa using c)] at hu
        cases hu
    obtain ⟨g', e1, h⟩ := (HL.out.past B1.out).cell j hj
    injection e1 with e1
    injection e1 with e1
    subst e1
    rw [List.getElem?_map, List.getElem?_eq_getElem hj] at hu
    simp only [Option.map_some, Option.some.injEq] at hu
    subst hu
    rw [Addr.add_lit]
    show w1.cell? ⟨gl, 0 + j, none⟩ = some (rptr7 ps[j])
    rw [Nat.zero_add]
    exact h
  · intro v' W2 hown2 hgrow
    have b2 : Below w.heap.size w W2 := (show Below w.heap.size w w1.drew from B1.out.drew).grown hgrow B1.out.size (fun k hk => (own_blk OW.out hk).1)
    have el : zs.map pvR7 ++ ps.map rptr7 = (zs.map some ++ ps).map rptr7 := by
      rw [List.map_append, List.map_map]
      rfl
    rw [el] at hown2
    obtain ⟨g2, cap', rfl, PR⟩ := rprow_own (m := m) (n := n) hown2 (by simp [HQ.out]) (by omega) (fun z hz => by
      rcases List.mem_append.1 hz with h | h
      · obtain ⟨z', hz', e⟩ := List.mem_map.1 h
        injection e with e
        subst e
        exact ⟨(HF.out.zones _ hz').1.past b2, (HF.out.zones _ hz').2.1⟩
      · exact ⟨(HL.out.zones z h).1.past b2, (HL.out.zones z h).2⟩)
    have HNN := hideD (HN.out W2 g2 cap' b2 PR)
    rw [HQ.out] at HNN
    have S2 : Hid (W2.cell? ⟨fb, 0, none⟩ = some (.int .i64 (n : Int))) := kc _ _ b2 HF.out.c0
    have B2 := hideD b2
    clear hown2 hgrow b2 PR el
    refine hK.out _ _ ⟨S2.out, trivial⟩ (fun hHeld => ?_)
    clear hK KK
    try simp only [Act.put, List.setIfInBounds_toArray, List.set_cons_zero, List.set_cons_succ]
    refine wpAnyH_ready (rs := [7]) (by kernel_rfl) (by simp) ?_
    refine AllReadyH.cons (o := ⟨_, _, _, _, _, _⟩) rfl (fun KK hK => ?_) AllReadyH.nil
    go_simp
    refine HNN.out.mono ?_
    rintro e W3 ⟨⟨p, x, rfl, hR⟩, hb3⟩
    have S3 : Hid (W3.cell? ⟨fb, 0, none⟩ = some (.int .i64 (n : Int))) := kc _ _ hb3 S2.out
    have B3 := hideD (B2.out.trans (hb3.mono B2.out.size))
    have HR := hideD hR
    clear hb3 hR HNN
    refine hK.out _ _ ⟨S3.out, trivial⟩ (fun hHeld => ?_)
    clear hK KK
    try simp only [Act.put, List.setIfInBounds_toArray, List.set_cons_zero, List.set_cons_succ]
    refine wpAnyH_take (i := 8) (oi := ⟨_, _, _, _, _, _⟩) (v := ?_) rfl (by kernel_rfl) (by kernel_rfl) (by kernel_rfl) (fun _ _ _ h => h) (Or.inl ⟨by rfl, ?_⟩) (by assumption) ?_
    rotate_left
    · intro w hs1; (try dsimp only at hs1); obtain ⟨s0, -⟩ := hs1; first | (go_simp; done) | (go_simp; with_reducible rfl)
    try simp only [Act.put, List.setIfInBounds_toArray, List.set_cons_zero, List.set_cons_succ]
    refine wpAnyH_take (i := 9) (oi := ⟨_, _, _, _, _, _⟩) (v := ?_) rfl (by kernel_rfl) (by kernel_rfl) (by kernel_rfl) (fun _ _ _ h => h) (Or.inl ⟨by rfl, ?_⟩) (by assumption) ?_
    rotate_left
    · intro w hs1; (try dsimp only at hs1); obtain ⟨s0, -⟩ := hs1; first | (go_simp; done) | (go_simp; with_reducible rfl)
    try simp only [Act.put, List.setIfInBounds_toArray, List.set_cons_zero, List.set_cons_succ]
    refine wpAnyH_take (i := 10) (oi := ⟨_, _, _, _, _, _⟩) (v := ?_) rfl (by kernel_rfl) (by kernel_rfl) (by kernel_rfl) (fun _ _ _ h => h) (Or.inl ⟨by rfl, ?_⟩) (by assumption) ?_
    rotate_left
    · intro w hs1; (try dsimp only at hs1); obtain ⟨s0, -⟩ := hs1; first | (go_simp; done) | (go_simp; with_reducible rfl)
    try simp only [Act.put, List.setIfInBounds_toArray, List.set_cons_zero, List.set_cons_succ]
    refine wpAnyH_take (i := 11) (oi := ⟨_, _, _, _, _, _⟩) (v := ?_) rfl (by kernel_rfl) (by kernel_rfl) (by kernel_rfl) (fun _ _ _ h => h) (Or.inl ⟨by rfl, ?_⟩) (by assumption) ?_
    rotate_left
    · intro w hs1; (try dsimp only at hs1); obtain ⟨s0, -⟩ := hs1; first | (go_simp; done) | (go_simp; with_reducible rfl)
    try simp only [Act.put, List.setIfInBounds_toArray, List.set_cons_zero, List.set_cons_succ]
    refine wpAnyH_done (by kernel_rfl) ?_ _
    go_wp2_with fail
    refine bodyPost_ret (v := .tuple #[p, x]) (by simp [results, Try.results14, go_sem]) rfl ?_
    exact ⟨⟨p, x, rfl, HR.out⟩, B3.out⟩
end Go.Proofs.Ytnfkmpickmonoaa
