/-
  The widening of extra: by (its closure), of.
-/
import Derived.Test.YtfffcmelkdmjaaaDoorIaz
import Derived.Test.YtfffcmelkdmjaaaDoorZb
import Derived.Test.YtfffcmelkdmjaaaDoorZi
import Derived.Laws.EntriesVeiled
namespace Go.Proofs.YtfffcmelkdmjaaaDoor
open Go.RowKit
set_option linter.unusedVariables false
set_option maxRecDepth 100000
/-- A cell, widened. -/
def wdV (i : Nat) (x y b : Int) : Int := if ¬ i = 0 ∧ 2 * x + 1 < b then 2147483647 else if b < -(2 * y) then -(2 * y) else b
theorem wcell_any (bl bh gl gh cl ch n i j : Nat) (b x y : Int) (w : World) (hn : n ≤ 8) (hi : i ≤ n) (hj : j ≤ n) (x0 : 0 ≤ x) (x1 : x ≤ 1048576) (y0 : 0 ≤ y) (y1 : y ≤ 1048576)
    (c1 : w.cell? ⟨bl, 0, none⟩ = some (.slice (some ⟨gl, 0, none⟩) (n + 1) cl)) (c2 : w.cell? ⟨bh, 0, none⟩ = some (.slice (some ⟨gh, 0, none⟩) (n + 1) ch)) (c3 : w.cell? ⟨gl, i, none⟩ = some (.int .i64 x)) (c4 : w.cell? ⟨gh, j, none⟩ = some (.int .i64 y)) :
    Calls Tryd.prog 150 #[.int .i64 i, .int .i64 j, .int .i32 b, .pointer (some ⟨bl, 0, none⟩), .pointer (some ⟨bh, 0, none⟩)] w fun e w' => e = .returned (.int .i32 (wdV i x y b)) ∧ w' = w := by
  have H1 : Hid (∀ w, Calls Tryd.prog 143 #[.int .i64 x] w fun e w' => e = .returned (.tuple #[.int .i32 (2 * x + 1), .int .i64 0]) ∧ w' = w) := fun w => by
    have := atMost_any x w
    rwa [show ofB x true = 2 * x + 1 by unfold ofB; rw [if_neg (by omega), if_pos rfl], show ofE x = 0 by unfold ofE; rw [if_neg (by omega)]] at this
  have H2 : Hid (∀ w, Calls Tryd.prog 144 #[.int .i64 (-y)] w fun e w' => e = .returned (.tuple #[.int .i32 (-(2 * y)), .int .i64 0]) ∧ w' = w) := fun w => by
    have := lessThan_any (-y) w
    rwa [show ofB (-y) false = -(2 * y) by unfold ofB; rw [if_neg (by omega), if_neg (by decide)]; omega, show ofE (-y) = 0 by unfold ofE; rw [if_neg (by omega)]] at this
  have HW : Hid (wdV i x y b = if ¬ i = 0 ∧ 2 * x + 1 < b then 2147483647 else if b < -(2 * y) then -(2 * y) else b) := rfl
  have i0 : (0 : Int) ≤ (i : Int) := by omega
  have i1 : (i : Int) < ((n + 1 : Nat) : Int) := by omega
  have j0 : (0 : Int) ≤ (j : Int) := by omega
  have j1 : (j : Int) < ((n + 1 : Nat) : Int) := by omega
  have ng : wrap64 (-y) = -y := by unfold wrap64; omega
  generalize hN : n + 1 = m at *
  clear hN
  go_enter Tryd.func150, Tryd.ntmps150
  go_wp2_with fail
  refine (H1.out _).mono ?_
  rintro e w' ⟨rfl, rfl⟩
  go_wp2_with fail
  refine (H2.out _).mono ?_
  rintro e w' ⟨rfl, rfl⟩
  clear c1 c2 c3 c4 H1 H2 ng
  generalize hX : 2 * x + 1 = X at *
  generalize hY : -(2 * y) = Y at *
  clear hX hY x0 x1 y0 y1
  by_cases ci : i = 0
  · have ci' : (i : Int) = 0 := by omega
    rw [if_neg (by omega)] at HW
    by_cases cy : b < Y
    · rw [if_pos cy] at HW
      go_wp2_with fail
      go_ret
      exact ⟨by rw [HW.out]; rfl, rfl⟩
    · rw [if_neg cy] at HW
      go_wp2_with fail
      go_ret
      exact ⟨by rw [HW.out]; rfl, rfl⟩
  · have ci' : ¬ (i : Int) = 0 := by omega
    by_cases cx : X < b
    · rw [if_pos ⟨ci, cx⟩] at HW
      go_wp2_with fail
      go_ret
      exact ⟨by rw [HW.out]; rfl, rfl⟩
    · rw [if_neg (by omega)] at HW
      by_cases cy : b < Y
      · rw [if_pos cy] at HW
        go_wp2_with fail
        go_ret
        exact ⟨by rw [HW.out]; rfl, rfl⟩
      · rw [if_neg cy] at HW
        go_wp2_with fail
        go_ret
        exact ⟨by rw [HW.out]; rfl, rfl⟩
/-- What the closure has: both rows of constants. -/
def ByAt (w : World) (bl bh n : Nat) (lo up : List Int) : Prop := ∃ gl cl gh ch, w.cell? ⟨bl, 0, none⟩ = some (.slice (some ⟨gl, 0, none⟩) (n + 1) cl) ∧ w.cell? ⟨bh, 0, none⟩ = some (.slice (some ⟨gh, 0, none⟩) (n + 1) ch) ∧ ∀ i, i ≤ n → w.cell? ⟨gl, i, none⟩ = some (.int .i64 (cstN lo i)) ∧ w.cell? ⟨gh, i, none⟩ = some (.int .i64 (cstN up i))
theorem ByAt.past {w w' : World} {bl bh n : Nat} {lo up : List Int} (h : ByAt w bl bh n lo up) (hb : Below w.heap.size w w') : ByAt w' bl bh n lo up := by
  obtain ⟨gl, cl, gh, ch, h1, h2, h3⟩ := h
  exact ⟨gl, cl, gh, ch, kc _ _ hb h1, kc _ _ hb h2, fun i hi => ⟨kc _ _ hb (h3 i hi).1, kc _ _ hb (h3 i hi).2⟩⟩
def byF (bl bh : Nat) : Value := .func (.func 150) #[] #[.pointer (some ⟨bl, 0, none⟩), .pointer (some ⟨bh, 0, none⟩)]
theorem own_ints {w : World} {base : Nat} {v : Value} {l : List Int} (h : w.ownsRow base 3 1 v l.length (l.map (Value.int .i64))) : ∃ a k c, v = .slice a k c ∧ IntsAt w v l ∧ ∀ g off sp, a = some ⟨g, off, sp⟩ → base ≤ g := by
  rcases h.2 with ⟨rfl, h0⟩ | ⟨g, cap, cur, rfl, hg, h2, h3, h4, h5, h6⟩
  · exact ⟨none, 0, 0, rfl, .inl ⟨_, _, rfl, List.length_eq_zero_iff.1 h0⟩, fun g off sp e => by cases e⟩
  · refine ⟨_, _, _, rfl, .inr ⟨g, 0, cap, rfl, fun j hj => ?_⟩, fun g' off sp e => ?_⟩
    · rw [Nat.zero_add, h.cellAt j (by omega)]
      simp [List.getD, hj]
    · cases e; exact hg
theorem keep_ne {w : World} {p q : Addr} {u v x : Value} (hp : w.cell? p = some u) (hq : w.cell? q = some v) (h : ¬ u = v) : (w.setCell p x).cell? q = some v := by
  rw [World.cell?_setCell_other _ _ _ _ (by intro e; subst e; rw [hp] at hq; injection hq with hq; exact h hq)]
  exact hq
/-- A value that is neither a number nor a row. -/
def Odd (u : Value) : Prop := (∀ x, ¬ u = .int .i64 x) ∧ ∀ a k c, ¬ u = .slice (some a) k c
theorem IntsAt.set {w : World} {v : Value} {l : List Int} {p : Addr} {x u : Value} (h : IntsAt w v l) (hp : w.cell? p = some u) (ho : Odd u) : IntsAt (w.setCell p x) v l := by
  rcases h with h | ⟨b, off, cap, rfl, hc⟩
  · exact .inl h
  · exact .inr ⟨b, off, cap, rfl, fun j hj => keep_ne hp (hc j hj) (ho.1 _)⟩
theorem ByAt.set {w : World} {bl bh n : Nat} {lo up : List Int} {p : Addr} {x u : Value} (h : ByAt w bl bh n lo up) (hp : w.cell? p = some u) (ho : Odd u) : ByAt (w.setCell p x) bl bh n lo up := by
  obtain ⟨gl, cl, gh, ch, h1, h2, h3⟩ := h
  exact ⟨gl, cl, gh, ch, keep_ne hp h1 (ho.2 _ _ _), keep_ne hp h2 (ho.2 _ _ _), fun i hi => ⟨keep_ne hp (h3 i hi).1 (ho.1 _), keep_ne hp (h3 i hi).2 (ho.1 _)⟩⟩
theorem odd1 : Odd (.slice none 0 0) := ⟨fun x h => (by cases h), fun a k c h => (by cases h)⟩
theorem odd2 : Odd .nilFunc := ⟨fun x h => (by cases h), fun a k c h => (by cases h)⟩
set_option maxHeartbeats 4000000 in
theorem by_any (n cap cap' : Nat) (ad ad' : Option Addr) (lo up : List Int) (w : World) (hn : n ≤ 8) (hl : lo.length = n) (hu : up.length = n) (hv : IntsAt w (.slice ad n cap) lo) (hv' : IntsAt w (.slice ad' n cap') up) :
    Calls Tryd.prog 123 #[.slice ad n cap, .slice ad' n cap'] w fun e w' => (∃ v bl bh, e = .returned (.agg #[v, byF bl bh]) ∧ Hid (IntsAt w' v (silL lo up n)) ∧ Hid (ByAt w' bl bh n lo up)) ∧ Below w.heap.size w w' := by
  have HC1 : Hid (∀ w', Below w.heap.size w w' → _) := fun w' hb => counted_any n cap ad lo w' hl (hv.past hb) (by omega)
  have HC2 : Hid (∀ w', Below w.heap.size w w' → _) := fun w' hb => counted_any n cap' ad' up w' hu (hv'.past hb) (by omega)
  have HS : Hid (∀ w', Below w.heap.size w w' → _) := fun w' hb => silent_any n cap cap' ad ad' lo up w' hl hu (hv.past hb) (hv'.past hb) (by omega)
  go_enter Tryd.func123, Tryd.ntmps123
  go_wp2_with fail
  have B0 := hideD (below_one w (.cells #[.slice none 0 0, .nilFunc] 182))
  have HC1' := hideD (HC1.out _ B0.out)
  have L0 : w.heap.size < (w.alloc (.cells #[.slice none 0 0, .nilFunc] 182)).heap.size := by simp
  have K0 : (w.alloc (.cells #[.slice none 0 0, .nilFunc] 182)).cell? ⟨w.heap.size, 0, none⟩ = some (.slice none 0 0) := by simp [go_sem]
  have K1 : (w.alloc (.cells #[.slice none 0 0, .nilFunc] 182)).cell? ⟨w.heap.size, 1, none⟩ = some .nilFunc := by simp [go_sem]
  have Z0 : (w.alloc (.cells #[.slice none 0 0, .nilFunc] 182)).frozen? ⟨w.heap.size, 0, none⟩ = false := by simp [go_sem]
  have Z1 : (w.alloc (.cells #[.slice none 0 0, .nilFunc] 182)).frozen? ⟨w.heap.size, 1, none⟩ = false := by simp [go_sem]
  generalize w.alloc (.cells #[.slice none 0 0, .nilFunc] 182) = w0 at *
  refine HC1'.out.mono ?_
  rintro e w1 ⟨⟨v1, rfl, own1⟩, hb1⟩
  have k0 := kc _ _ hb1 K0
  have k1 := kc _ _ hb1 K1
  have z0 := kf _ _ hb1 K0 Z0
  have z1 := kf _ _ hb1 K1 Z1
  have B1 := hideD (beyondD B0.out hb1)
  have HC2' := hideD (HC2.out _ B1.out)
  clear K0 K1 Z0 Z1
  go_wp2_with fail
  refine HC2'.out.mono ?_
  rintro e w2 ⟨⟨v2, rfl, own2⟩, hb2⟩
  have B2 := hideD (beyondD B1.out hb2)
  obtain ⟨gl, cl, rfl⟩ := own_form own1.out
  obtain ⟨gh, ch, rfl⟩ := own_form own2.out
  have R1 : Hid (∀ i, i ≤ n → w2.cell? ⟨gl, i, none⟩ = some (.int .i64 (cstN lo i)) ∧ w2.cell? ⟨gh, i, none⟩ = some (.int .i64 (cstN up i))) := fun i hi => by
    have e1 := own1.out.cellAt i (by omega)
    have e2 := own2.out.cellAt i (by omega)
    rw [List.getElem?_map, ← hl, cstL_get lo i (by omega)] at e1
    rw [List.getElem?_map, ← hu, cstL_get up i (by omega)] at e2
    exact ⟨kc _ _ hb2 e1, e2⟩
  have m0 := kc _ _ hb2 k0
  have m1 := kc _ _ hb2 k1
  have y0 := kf _ _ hb2 k0 z0
  have y1 := kf _ _ hb2 k1 z1
  clear k0 k1 z0 z1 own1 own2 HC1 HC1' HC2 HC2' hb1 hb2 B1 L0
  have N1 : ((n + 1 : Nat) : Int) = (n : Int) + 1 := by omega
  go_wp2_with fail
  have bb : Below w2.heap.size w2 ((w2.alloc (.cells #[.slice (some ⟨gl, 0, none⟩) (n + 1) cl] 74)).alloc (.cells #[.slice (some ⟨gh, 0, none⟩) (n + 1) ch] 74)) := ((Below.refl _ _).alloc (Nat.le_refl _) _).alloc (by simp) _
  have BY : Hid (ByAt ((w2.alloc (.cells #[.slice (some ⟨gl, 0, none⟩) (n + 1) cl] 74)).alloc (.cells #[.slice (some ⟨gh, 0, none⟩) (n + 1) ch] 74)) w2.heap.size (w2.heap.size + 1) n lo up) := by
    refine ⟨gl, cl, gh, ch, by simp [go_sem], by simp [go_sem], fun i hi => ⟨kc _ _ bb (R1.out i hi).1, kc _ _ bb (R1.out i hi).2⟩⟩
  have B3 := hideD (beyondD B2.out bb)
  have n0 := kc _ _ bb m0
  have n1 := kc _ _ bb m1
  have x0 := kf _ _ bb m0 y0
  have x1 := kf _ _ bb m1 y1
  have HS' := hideD (HS.out _ B3.out)
  clear bb m0 m1 y0 y1 R1 B2 HS
  generalize (w2.alloc (.cells #[.slice (some ⟨gl, 0, none⟩) (n + 1) cl] 74)).alloc (.cells #[.slice (some ⟨gh, 0, none⟩) (n + 1) ch] 74) = w3 at *
  generalize w2.heap.size = bl at *
  refine HS'.out.mono ?_
  rintro e w4 ⟨⟨v, rfl, own⟩, hb4⟩
  have BY4 := hideD (BY.out.past hb4)
  have B4 := hideD (beyondD B3.out hb4)
  have m0 := kc _ _ hb4 n0
  have m1 := kc _ _ hb4 n1
  have y0 := kf _ _ hb4 n0 x0
  have y1 := kf _ _ hb4 n1 x1
  obtain ⟨a, k, c, rfl, IV, O4⟩ := own_ints own.out
  have lb : Hid (w.heap.size < w3.heap.size) := World.block_lt_of_cell? _ _ n0
  have m1' : (w4.setCell ⟨w.heap.size, 0, none⟩ (.slice a k c)).cell? ⟨w.heap.size, 1, none⟩ = some .nilFunc := by rw [World.cell?_setCell_other _ _ _ _ (by intro e; injection e; omega)]; exact m1
  have y1' : (w4.setCell ⟨w.heap.size, 0, none⟩ (.slice a k c)).frozen? ⟨w.heap.size, 1, none⟩ = false := by rw [World.frozen?_setCell]; exact y1
  have I5 := hideD ((IV.set (x := .slice a k c) m0 odd1).set (x := byF bl (bl + 1)) m1' odd2)
  have BY5 := hideD ((BY4.out.set (x := .slice a k c) m0 odd1).set (x := byF bl (bl + 1)) m1' odd2)
  have B5 := hideD ((B4.out.setCell (p := ⟨w.heap.size, 0, none⟩) (Nat.le_refl _) (.slice a k c)).setCell (p := ⟨w.heap.size, 1, none⟩) (Nat.le_refl _) (byF bl (bl + 1)))
  have p1 : ((w4.setCell ⟨w.heap.size, 0, none⟩ (.slice a k c)).setCell ⟨w.heap.size, 1, none⟩ (byF bl (bl + 1))).cell? ⟨w.heap.size, 1, none⟩ = some (byF bl (bl + 1)) := World.cell?_setCell_same _ _ _ m1'
  have p0 : ((w4.setCell ⟨w.heap.size, 0, none⟩ (.slice a k c)).setCell ⟨w.heap.size, 1, none⟩ (byF bl (bl + 1))).cell? ⟨w.heap.size, 0, none⟩ = some (.slice a k c) := by
    rw [World.cell?_setCell_other _ _ _ _ (by intro e; injection e; omega)]
    exact World.cell?_setCell_same _ _ _ m0
  have P0 := hideD p0
  have P1 := hideD p1
  clear n0 n1 x0 x1 BY B3 HS' hb4 p0 p1 IV O4 own
  go_wp2_with fail
  have p0 := P0.out
  have p1 := P1.out
  unfold byF at p0 p1
  exact bodyPost_ret (v := .agg #[.slice a k c, byF bl (bl + 1)]) (by simp [results, Tryd.results123, go_sem, byF, p0, p1]) rfl ⟨⟨_, _, _, rfl, I5, BY5⟩, B5.out⟩
end Go.Proofs.YtfffcmelkdmjaaaDoor
