/-
  fed: what both say of Plus of a zone twice, of Fewer; same of both, nil or not; both News with their length.
-/
import Derived.Test.YtnfkmpickmonoaaQ51
import Derived.Test.YtnfkmpickmonoaaQ39
namespace Go.Proofs.Ytnfkmpickmonoaa
open Go.RowKit Go.Shelf
set_option linter.unusedVariables false
set_option maxRecDepth 100000
attribute [local go_sem] Oper.semAt_some
theorem prow_two {n m : Nat} {W : World} {g : Nat} {e : E3} (l0 : W.cell? ⟨g, 0, none⟩ = some (ptr7 (eP e))) (l1 : W.cell? ⟨g, 1, none⟩ = some (ptr7 (eP e))) (hz : ∀ b r c, e = some (b, r, c) → ZoneAt W b n c ∧ ZC n m c) : PRow W (some ⟨g, 0, none⟩) n m ([e, e].map eP) := by
  refine ⟨fun k hk => ⟨g, rfl, ?_⟩, fun z hz' => ?_⟩
  · have : k < 2 := hk
    obtain rfl | rfl : k = 0 ∨ k = 1 := by omega
    · exact l0
    · exact l1
  · have : some z = eP e := by simpa using hz'
    cases e with
    | none => cases this
    | some x =>
      obtain ⟨b, r, c⟩ := x
      injection this with this
      subst this
      exact hz b r c rfl
theorem rprow_two {n m : Nat} {W : World} {g : Nat} {e : E3} (l0 : W.cell? ⟨g, 0, none⟩ = some (rptr7 (eR m e))) (l1 : W.cell? ⟨g, 1, none⟩ = some (rptr7 (eR m e))) (hz : ∀ b r c, e = some (b, r, c) → RZone W 0 r n (listOf c m)) : RPRow W (some ⟨g, 0, none⟩) n m ([e, e].map (eR m)) := by
  refine ⟨fun k hk => ⟨g, rfl, ?_⟩, fun z hz' => ?_⟩
  · have : k < 2 := hk
    obtain rfl | rfl : k = 0 ∨ k = 1 := by omega
    · exact l0
    · exact l1
  · have : some z = eR m e := by simpa using hz'
    cases e with
    | none => cases this
    | some x =>
      obtain ⟨b, r, c⟩ := x
      injection this with this
      subst this
      exact ⟨hz b r c rfl, listOf_len _ _⟩
/-- Both say the same of Plus of a row of two. -/
def Plus2 (N m : Nat) (W : World) (p r : Option Addr) (vp vr : Value) : Prop := ∃ k u,
  (∀ X gl cl, Below W.heap.size W X → X.cell? ⟨gl, 0, none⟩ = some vp → X.cell? ⟨gl, 1, none⟩ = some vp → Calls Try.prog 13 #[.pointer p, .slice (some ⟨gl, 0, none⟩) 2 cl] X fun e w' => (∃ p, e = .returned (.tuple #[.pointer p, .int .i64 k]) ∧ Hid (PF7 N m w' p u)) ∧ Hid (Below X.heap.size X w')) ∧
  (∀ X gr cr, Below W.heap.size W X → X.cell? ⟨gr, 0, none⟩ = some vr → X.cell? ⟨gr, 1, none⟩ = some vr → Calls Try.prog 14 #[.pointer r, .slice (some ⟨gr, 0, none⟩) 2 cr] X fun e w' => (∃ p, e = .returned (.tuple #[.pointer p, .int .i64 k]) ∧ Hid (RF7 N m w' p u)) ∧ Hid (Below X.heap.size X w'))
/-- Plus of a row of two that are one. -/
theorem two_plusE {N m : Nat} {W : World} {p r : Option Addr} {cs : List Row} {e : E3} (N8 : N ≤ 8) (hm : m = (N + 1) * (N + 1)) (hl : cs.length ≤ 100) (hp : PF7 N m W p (some cs)) (hr : RF7 N m W r (some cs)) (hz : ∀ b r c, e = some (b, r, c) → ZoneAt W b N c ∧ RZone W 0 r N (listOf c m) ∧ ZC N m c)
    : Plus2 N m W p r (ptr7 (eP e)) (rptr7 (eR m e)) := by
  obtain ⟨fb, zs, rfl, h2, h3⟩ := hp
  obtain ⟨gb, rs, rfl, g2, g3⟩ := hr
  have mp := zlen7 hm
  obtain ⟨es, q1, q2, q3, q4, q5⟩ := zip_rows zs rs (by rw [h3]; exact g3)
  have zl : zs.length ≤ 100 := by rw [← h3, List.length_map] at hl; exact hl
  have rl : rs.length ≤ 100 := by have := rs_len g3; omega
  have el : es.length = zs.length := by have := congrArg List.length q1; simpa using this
  have zc : ∀ b r c, some (b, r, c) ∈ es ++ [e, e] → ZC N m c := fun b r c hmem => by
    rcases List.mem_append.1 hmem with q | q
    · exact (h2.zones _ (q5 b r c q)).2.1
    · have : some (b, r, c) = e := by simpa using q
      exact (hz b r c this.symm).2.2
  have ep : zs.map some ++ [e, e].map eP = (es ++ [e, e]).map eP := by rw [List.map_append, q1]
  have er : rs.map some ++ [e, e].map (eR m) = (es ++ [e, e]).map (eR m) := by rw [List.map_append, q2]
  have lp : ((es ++ [e, e]).map eP).length = zs.length + 2 := by simp [el]
  have lr : ((es ++ [e, e]).map (eR m)).length = rs.length + 2 := by have := congrArg List.length q2; simp at this; simp [this]
  have P : ∀ (k : Int) (u : U7) (X : World) (gl cl : Nat), Below W.heap.size W X → X.cell? ⟨gl, 0, none⟩ = some (ptr7 (eP e)) → X.cell? ⟨gl, 1, none⟩ = some (ptr7 (eP e)) → (∀ (Y : World) (g cap : Nat), PRow Y (some ⟨g, 0, none⟩) N m ((es ++ [e, e]).map eP) → Calls Try.prog 9 #[.int .i64 (N : Int), .slice (some ⟨g, 0, none⟩) (zs.length + 2) cap] Y fun e w' => (∃ p, e = .returned (.tuple #[.pointer p, .int .i64 k]) ∧ PF7 N m w' p u) ∧ Below Y.heap.size Y w') → Calls Try.prog 13 #[.pointer (some ⟨fb, 0, none⟩), .slice (some ⟨gl, 0, none⟩) 2 cl] X fun e w' => (∃ p, e = .returned (.tuple #[.pointer p, .int .i64 k]) ∧ Hid (PF7 N m w' p u)) ∧ Hid (Below X.heap.size X w') := fun k u X gl cl hb l0 l1 hN => by
    refine (fplus_any fb N m gl cl zs ([e, e].map eP) (fun p x w => ∃ q, p = .pointer q ∧ x = .int .i64 k ∧ PF7 N m w q u) X (h2.past hb) (prow_two l0 l1 fun b r c h => ⟨(hz b r c h).1.past hb, (hz b r c h).2.2⟩) (by simp) (by simp) (fun Y g cap hY hrow => ?_)).mono ?_
    · rw [ep] at hrow
      refine (hN Y g cap hrow).mono ?_
      rintro e w' ⟨⟨p, rfl, hu⟩, hb'⟩
      exact ⟨⟨_, _, rfl, p, rfl, rfl, hu⟩, hb'⟩
    · rintro e w' ⟨⟨p, x, rfl, q, rfl, rfl, hu⟩, hb'⟩
      exact ⟨⟨q, rfl, hu⟩, hb'⟩
  have R : ∀ (k : Int) (u : U7) (X : World) (gr cr : Nat), Below W.heap.size W X → X.cell? ⟨gr, 0, none⟩ = some (rptr7 (eR m e)) → X.cell? ⟨gr, 1, none⟩ = some (rptr7 (eR m e)) → (∀ (Y : World) (g cap : Nat), RPRow Y (some ⟨g, 0, none⟩) N m ((es ++ [e, e]).map (eR m)) → Calls Try.prog 10 #[.int .i64 (N : Int), .slice (some ⟨g, 0, none⟩) (rs.length + 2) cap] Y fun e w' => (∃ p, e = .returned (.tuple #[.pointer p, .int .i64 k]) ∧ RF7 N m w' p u) ∧ Below Y.heap.size Y w') → Calls Try.prog 14 #[.pointer (some ⟨gb, 0, none⟩), .slice (some ⟨gr, 0, none⟩) 2 cr] X fun e w' => (∃ p, e = .returned (.tuple #[.pointer p, .int .i64 k]) ∧ Hid (RF7 N m w' p u)) ∧ Hid (Below X.heap.size X w') := fun k u X gr cr hb k0 k1 hN => by
    refine (rfplus_any gb N m gr cr rs ([e, e].map (eR m)) (fun p x w => ∃ q, p = .pointer q ∧ x = .int .i64 k ∧ RF7 N m w q u) X (g2.past hb) (rprow_two k0 k1 fun b r c h => (hz b r c h).2.1.past hb) (by simp) (by simp) (fun Y g cap hY hrow => ?_)).mono ?_
    · rw [er] at hrow
      refine (hN Y g cap hrow).mono ?_
      rintro e w' ⟨⟨p, rfl, hu⟩, hb'⟩
      exact ⟨⟨_, _, rfl, p, rfl, rfl, hu⟩, hb'⟩
    · rintro e w' ⟨⟨p, x, rfl, q, rfl, rfl, hu⟩, hb'⟩
      exact ⟨⟨q, rfl, hu⟩, hb'⟩
  have hNE : hasN (es ++ [e, e]) = e.isNone := by
    unfold hasN at q3 ⊢
    rw [List.any_append, q3]
    simp
  cases hN : hasN (es ++ [e, e]) with
  | true =>
    refine ⟨1, none, fun X gl cl hb l0 l1 => P 1 none X gl cl hb l0 l1 fun Y g cap hrow => ?_, fun X gr cr hb k0 k1 => R 1 none X gr cr hb k0 k1 fun Y g cap hrow => ?_⟩
    · refine (new_nil _ cap (zs.length + 2) N m _ Y N8 lp (by omega) hrow (by rw [hasN_P, hN])).mono ?_
      rintro e w' ⟨rfl, hb'⟩
      exact ⟨⟨none, rfl, rfl⟩, hb'⟩
    · refine (rnew_nil _ cap (rs.length + 2) N m _ Y N8 lr (by omega) hrow (by rw [hasN_R, hN])).mono ?_
      rintro e w' ⟨rfl, hb'⟩
      exact ⟨⟨none, rfl, rfl⟩, hb'⟩
  | false =>
    have ce := newL_cells hN (by simp [el]; omega)
    refine ⟨0, some ((cellsE (es ++ [e, e])).filter (fun c => decide (¬ c 0 < 1))), fun X gl cl hb l0 l1 => P 0 _ X gl cl hb l0 l1 fun Y g cap hrow => ?_, fun X gr cr hb k0 k1 => R 0 _ X gr cr hb k0 k1 fun Y g cap hrow => ?_⟩
    · refine (new_any _ cap (zs.length + 2) N m _ Y N8 lp (by omega) hrow (by rw [hasN_P, hN])).mono ?_
      rintro x w' ⟨h, hb'⟩
      rw [ce] at h
      rcases h with ⟨h1, -⟩ | ⟨-, fb', zs', -, rfl, a, b⟩
      · exact absurd rfl h1
      · exact ⟨⟨_, rfl, fb', zs', rfl, a, b⟩, hb'⟩
    · refine (rnew_any g cap (rs.length + 2) N m _ Y N8 mp lr (by omega) hrow (by rw [hasN_R, hN])).mono ?_
      rintro x w' ⟨⟨fb', zs', rfl, a, b⟩, hb'⟩
      exact ⟨⟨_, rfl, fb', zs', rfl, a, rnew_cells hm hN zc b⟩, hb'⟩
theorem two_plus {N m : Nat} {W : World} {p r zp zr : Option Addr} {u : U7} {o : OZ7} (hF : Fits7 N m u o) (hl : ∀ cs, u = some cs → cs.length ≤ 100) (hp : PF7 N m W p u) (hr : RF7 N m W r u) (hz : PZo W zp o) (hy : RZo W zr o) (zc : ZCo7 o) : Plus2 N m W p r (.pointer zp) (.pointer zr) := by
  cases u with
  | none =>
    obtain rfl := hp
    obtain rfl := hr
    refine ⟨1, none, fun X gl cl _ _ _ => (same_bel7 (fplus_nil _ _)).mono ?_, fun X gr cr _ _ _ => (rplus_nil _ X).mono ?_⟩
    · rintro e w' ⟨rfl, hb⟩
      exact ⟨⟨none, rfl, rfl⟩, hb⟩
    · rintro e w' ⟨rfl, hb⟩
      exact ⟨⟨none, rfl, rfl⟩, hb⟩
  | some cs =>
    obtain ⟨N8, hm, hM⟩ := hF
    have hM := hM (by simp)
    cases o with
    | none =>
      obtain rfl := hz
      obtain rfl := hy
      exact two_plusE (e := none) N8 hm (hl cs rfl) hp hr (fun b r c h => by cases h)
    | some x =>
      obtain ⟨M, d⟩ := x
      obtain rfl := hM M d rfl
      obtain ⟨-, -, zb, rfl, hz⟩ := hz
      obtain ⟨-, rb, B, rfl, hy⟩ := hy
      have zd := zc M d rfl
      rw [← hm] at zd hy
      exact two_plusE (e := some (zb, rb, d)) N8 hm (hl cs rfl) hp hr (fun b r c h => by
        injection h with h
        injection h with h1 h2
        injection h2 with h2 h3
        subst h1 h2 h3
        exact ⟨hz, hy.weak7, zd⟩)
/-- Fewer by both. -/
theorem two_fewer {N m : Nat} {W : World} {p r : Option Addr} {u : U7} (hF : Fits7 N m u none) (hp : PF7 N m W p u) (hr : RF7 N m W r u) : ∃ u' : U7, (∀ w', Below W.heap.size W w' → Calls Try.prog 19 #[.pointer p] w' fun e w'' => (∃ q, e = .returned (.pointer q) ∧ Hid (PF7 N m w'' q u')) ∧ Hid (Below w'.heap.size w' w'')) ∧
    (∀ w', Below W.heap.size W w' → Calls Try.prog 20 #[.pointer r] w' fun e w'' => (∃ q, e = .returned (.pointer q) ∧ Hid (RF7 N m w'' q u')) ∧ Hid (Below w'.heap.size w' w'')) := by
  cases u with
  | none =>
    obtain rfl := hp
    obtain rfl := hr
    refine ⟨none, fun w' hb => (same_bel7 (ffewer_nil w')).mono ?_, fun w' hb => (rfewer_nil w').mono ?_⟩
    · rintro e w'' ⟨rfl, hb⟩
      exact ⟨⟨none, rfl, rfl⟩, hb⟩
    · rintro e w'' ⟨rfl, hb⟩
      exact ⟨⟨none, rfl, rfl⟩, hb⟩
  | some cs =>
    obtain ⟨N8, hm, -⟩ := hF
    obtain ⟨fb, zs, rfl, h2, h3⟩ := hp
    obtain ⟨gb, rs, rfl, g2, g3⟩ := hr
    have zl : zs.length = cs.length := by rw [← h3, List.length_map]
    refine ⟨some (fewK m cs cs.length), fun w' hb => (ffewer_any fb N m zs w' N8 hm (h2.past hb)).mono ?_, fun w' hb => (rfewer_any gb N m rs cs w' N8 hm (g2.past hb) g3 (by rw [← h3]; exact fed_zcs h2)).mono ?_⟩
    · rintro e w'' ⟨⟨f2, rs', -, rfl, a, b⟩, hb'⟩
      rw [h3, zl] at b
      exact ⟨⟨_, rfl, f2, rs', rfl, a, b⟩, hb'⟩
    · rintro e w'' ⟨⟨f2, rs', rfl, a, b⟩, hb'⟩
      exact ⟨⟨_, rfl, f2, rs', rfl, a, b⟩, hb'⟩
set_option maxHeartbeats 2000000 in
theorem same7_nil (w : World) : Calls Try.prog 12 #[.pointer none, .pointer none] w fun e w' => e = .returned (.bool true) ∧ Below w.heap.size w w' := by
  go_enter Try.func12, Try.ntmps12
  go_wp2_with fail
  refine (fzones_nil _).mono ?_
  rintro e W9 ⟨rfl, e9⟩
  obtain rfl := e9.symm
  clear e9
  go_wp2_with fail
  refine (rfzones_nil _).mono ?_
  rintro e W9 ⟨rfl, e9⟩
  obtain rfl := e9.symm
  clear e9
  go_wp2_with fail
  refine (fdim_nil _).mono ?_
  rintro e W9 ⟨rfl, e9⟩
  obtain rfl := e9.symm
  clear e9
  go_wp2_with fail
  refine (rfdim_nil _).mono ?_
  rintro e W9 ⟨rfl, e9⟩
  obtain rfl := e9.symm
  clear e9
  go_wp2_with fail
  refine (fempty_nil _).mono ?_
  rintro e W9 ⟨rfl, e9⟩
  obtain rfl := e9.symm
  clear e9
  go_wp2_with fail
  refine (rfempty_nil _).mono ?_
  rintro e W9 ⟨rfl, e9⟩
  obtain rfl := e9.symm
  clear e9
  go_wp2_with fail
  go_loopw [7] (fun i wr => i = .int .i64 0 ∧ wr = w) (fun _ _ => 0)
  case atStart => exact ⟨rfl, rfl⟩
  case round =>
    obtain ⟨rfl, rfl⟩ := hrel
    go_wp2_with fail
    go_ret
    exact ⟨rfl, Below.refl _ _⟩
theorem same7_both {N m : Nat} {W : World} {p r : Option Addr} {u : U7} (hF : Fits7 N m u none) (hp : PF7 N m W p u) (hr : RF7 N m W r u) : Calls Try.prog 12 #[.pointer p, .pointer r] W fun e w' => e = .returned (.bool true) ∧ Below W.heap.size W w' := by
  cases u with
  | none =>
    obtain rfl := hp
    obtain rfl := hr
    exact same7_nil W
  | some cs =>
    obtain ⟨N8, hm, -⟩ := hF
    obtain ⟨fb, zs, rfl, h2, h3⟩ := hp
    obtain ⟨gb, rs, rfl, g2, g3⟩ := hr
    exact same7_any fb gb N m zs rs W N8 hm h2 g2 (same_alike h3 g3)
theorem news7b {H : Nat} {n : Int} {W : World} {es : List E3} {va vb : Value} (h : Both7 H n W es va vb) (hl : es.length ≤ 9) : ∃ N m : Nat, ∃ k u, Fits7 N m u none ∧ (u ≠ none → n = (N : Int)) ∧ (∀ cs, u = some cs → cs.length ≤ 100) ∧ SayF N m W 9 #[.int .i64 n, va] k u ∧ SayG N m W 10 #[.int .i64 n, vb] k u := by
  by_cases hn : 0 ≤ n ∧ n ≤ 8
  · obtain ⟨N, rfl⟩ := Int.eq_ofNat_of_zero_le hn.1
    have N8 : N ≤ 8 := by omega
    refine ⟨N, (N + 1) * (N + 1), ?_⟩
    obtain ⟨⟨ad, cap, rfl, hp⟩, hr⟩ := prow_both h
    have l1 : (es.map eP).length = es.length := List.length_map ..
    cases hN : hasN es
    · refine ⟨0, some (newL (es.map eP)).1, ⟨N8, rfl, fun _ M c h => by cases h⟩, fun _ => rfl, fun cs h => ?_, fun W' hb => ?_, fun W' hb => ?_⟩
      · injection h with h
        rw [← h, newL_cells hN (by omega)]
        exact Nat.le_trans (List.length_filter_le _ _) (Nat.le_trans (cellsE_len es) (by omega))
      · refine (new_own ad cap es.length N ((N + 1) * (N + 1)) (es.map eP) W' N8 l1 (by omega) (hp.past hb) (by rw [hasN_P, hN])).mono ?_
        rintro e w' ⟨⟨h1, -⟩ | ⟨h1, fb, zs, -, rfl, h3, h4⟩, h5, h6⟩
        · rw [newL_cells hN (by omega)] at h1
          exact absurd rfl h1
        · exact ⟨⟨_, rfl, fb, zs, rfl, h3, h4⟩, h6⟩
      · have zc : ∀ b r c, some (b, r, c) ∈ es → ZC N ((N + 1) * (N + 1)) c := fun b r c hm => by
          obtain ⟨M, h2, -, -, -, h5⟩ := h.zones b r c hm
          obtain rfl : N = M := by omega
          exact h5
        have fin : ∀ e w', RNewOut N ((N + 1) * (N + 1)) (es.map (eR ((N + 1) * (N + 1)))) e w' → ∃ p, e = .returned (.tuple #[.pointer p, .int .i64 0]) ∧ Hid (RF7 N ((N + 1) * (N + 1)) w' p (some (newL (es.map eP)).1)) := fun e w' ⟨fb, zs, h1, h2, h3⟩ => by
          refine ⟨_, h1, fb, zs, rfl, h2, ?_⟩
          rw [rnew_cells rfl hN zc h3, newL_cells hN (by omega)]
        rcases hr with ⟨rfl, rfl⟩ | ⟨g, cap', rfl, hr⟩
        · refine (rnew_empty N ((N + 1) * (N + 1)) W' N8).mono ?_
          rintro e w' ⟨h1, h2⟩
          exact ⟨fin e w' h1, h2⟩
        · refine (rnew_any g cap' es.length N ((N + 1) * (N + 1)) (es.map (eR ((N + 1) * (N + 1)))) W' N8 (Nat.mul_pos (by omega) (by omega)) (List.length_map ..) (by omega) (hr.past hb) (by rw [hasN_R, hN])).mono ?_
          rintro e w' ⟨h1, h2⟩
          exact ⟨fin e w' h1, h2⟩
    · refine ⟨1, none, ⟨N8, rfl, fun _ M c h => by cases h⟩, fun h => absurd rfl h, fun cs h => (by cases h), fun W' hb => ?_, fun W' hb => ?_⟩
      · exact (new_nil ad cap es.length N ((N + 1) * (N + 1)) (es.map eP) W' N8 l1 (by omega) (hp.past hb) (by rw [hasN_P, hN])).mono fun e w' ⟨h1, h2⟩ => ⟨⟨none, h1, rfl⟩, h2⟩
      · rcases hr with ⟨rfl, rfl⟩ | ⟨g, cap', rfl, hr⟩
        · cases hN
        · exact (rnew_nil (some ⟨g, 0, none⟩) cap' es.length N ((N + 1) * (N + 1)) (es.map (eR ((N + 1) * (N + 1)))) W' N8 (List.length_map ..) (by omega) (hr.past hb) (by rw [hasN_R, hN])).mono fun e w' ⟨h1, h2⟩ => ⟨⟨none, h1, rfl⟩, h2⟩
  · refine ⟨0, 1, 12, none, ⟨by omega, rfl, fun _ M c h => by cases h⟩, fun h => absurd rfl h, fun cs h => (by cases h), fun W' hb => (new_clock n va W' (by omega)).mono fun e w' ⟨h1, h2⟩ => ⟨⟨none, h1, rfl⟩, h2⟩, fun W' hb => (rnew_clock n vb W' (by omega)).mono fun e w' ⟨h1, h2⟩ => ⟨⟨none, h1, rfl⟩, by rw [h2]; exact Below.refl _ _⟩⟩
end Go.Proofs.Ytnfkmpickmonoaa
