/-
  The contracts of the document's greatest common divisor and of its Right.
-/
import Derived.Test.YtnfkmpickmonoaaGreatQ44
import Derived.Test.YtnfkmpickmonoaaGreatQ38
namespace Go.Proofs.YtnfkmpickmonoaaGreat
open Go.RowKit Go.Shelf
set_option linter.unusedVariables false
def CS (W : World) (s : Nat) (xh xl yh yl : Int) : Prop := W.cell? ⟨s, 0, none⟩ = some (.int .u64 xh) ∧ W.cell? ⟨s, 1, none⟩ = some (.int .u64 xl) ∧ W.cell? ⟨s + 1, 0, none⟩ = some (.int .u64 yh) ∧ W.cell? ⟨s + 1, 1, none⟩ = some (.int .u64 yl) ∧ W.cell? ⟨s + 1 + 1, 0, none⟩ = some (.int .u64 0) ∧ W.cell? ⟨s + 1 + 1, 1, none⟩ = some (.int .u64 0) ∧ W.frozen? ⟨s, 0, none⟩ = false ∧ W.frozen? ⟨s, 1, none⟩ = false ∧ W.frozen? ⟨s + 1, 0, none⟩ = false ∧ W.frozen? ⟨s + 1, 1, none⟩ = false ∧ W.frozen? ⟨s + 1 + 1, 0, none⟩ = false ∧ W.frozen? ⟨s + 1 + 1, 1, none⟩ = false
theorem cs_below {W W' : World} {s : Nat} {xh xl yh yl : Int} (h : CS W s xh xl yh yl) (hb : Below W.heap.size W W') : CS W' s xh xl yh yl := by
  obtain ⟨c0, c1, c2, c3, c4, c5, f0, f1, f2, f3, f4, f5⟩ := h
  exact ⟨kc _ _ hb c0, kc _ _ hb c1, kc _ _ hb c2, kc _ _ hb c3, kc _ _ hb c4, kc _ _ hb c5, kf _ _ hb c0 f0, kf _ _ hb c1 f1, kf _ _ hb c2 f2, kf _ _ hb c3 f3, kf _ _ hb c4 f4, kf _ _ hb c5 f5⟩
theorem cs_set {W : World} {s : Nat} {xh xl yh yl : Int} (h : CS W s xh xl yh yl) (a b c d : Int) : CS ((((W.setCell ⟨s, 0, none⟩ (.int .u64 a)).setCell ⟨s, 1, none⟩ (.int .u64 b)).setCell ⟨s + 1, 0, none⟩ (.int .u64 c)).setCell ⟨s + 1, 1, none⟩ (.int .u64 d)) s a b c d := by
  obtain ⟨c0, c1, c2, c3, c4, c5, f0, f1, f2, f3, f4, f5⟩ := h
  have m1 : ¬ s = s + 1 + 1 := by omega
  have m2 : ¬ s + 1 + 1 = s := by omega
  unfold CS
  simp [go_sem, *]
def wideAt (W : World) (b : Nat) : Nat := (intOf ((W.cell? ⟨b, 0, none⟩).getD undef) * 18446744073709551616 + intOf ((W.cell? ⟨b, 1, none⟩).getD undef)).toNat
theorem wideAt_of {W : World} {s : Nat} {xh xl : Int} {Y : Int} (h : CS W s xh xl (hiW Y) (loW Y)) : wideAt W (s + 1) = Y.toNat := by
  obtain ⟨c0, c1, c2, c3, c4, c5, f0, f1, f2, f3, f4, f5⟩ := h
  unfold wideAt
  rw [c2, c3]
  have := hilo Y
  simp [intOf]
  omega
theorem gcdI_bd0 (a b : Int) : 0 ≤ gcdI a b := by unfold gcdI; omega
set_option maxRecDepth 100000 in
set_option maxHeartbeats 8000000 in
theorem xcommon_any (M N : Int) (w : World) (hM : U128 M) (hN : U128 N) :
    Calls Tryz.prog 117 #[wv M, wv N] w fun e w' => e = .returned (wv (gcdI M N)) ∧ Below w.heap.size w w' := by
  have HD : Hid (∀ X Y w, U128 X → U128 Y → 0 < Y → Calls Tryz.prog 136 #[wv X, wv Y] w fun e w' => e = .returned (.tuple #[wv (X / Y), wv (X % Y)]) ∧ Below w.heap.size w w') := hideR (fun X Y w h1 h2 h3 => xdivide_any X Y w h1 h2 h3)
  have m1 : ¬ w.heap.size = w.heap.size + 1 + 1 := by omega
  have m2 : ¬ w.heap.size + 1 + 1 = w.heap.size := by omega
  have HM := hideR hM
  have HN := hideR hN
  clear hM hN
  go_enter Tryz.func117, Tryz.ntmps117
  go_wp2_with fail
  go_loopw [7] (fun s wr => ∃ X Y : Int, Hid (U128 X) ∧ Hid (U128 Y) ∧ Hid (CS wr w.heap.size (hiW X) (loW X) (hiW Y) (loW Y)) ∧ Hid (gcdI X Y = gcdI M N) ∧ Hid (Below w.heap.size w wr)) (fun _ wr => wideAt wr (w.heap.size + 1))
  case atStart =>
    refine ⟨M, N, HM, HN, hideR ?_, hideR rfl, hideR (three w _ _ _)⟩
    unfold CS
    simp [go_sem]
  case round =>
    obtain ⟨X, Y, hX, hY, hS, hG, hB⟩ := hrel
    have HWm := hideR (wideAt_of hS.out)
    obtain ⟨c0, c1, c2, c3, c4, c5, f0, f1, f2, f3, f4, f5⟩ := hS.out
    by_cases y0 : Y = 0
    · subst y0
      have e : gcdI M N = X := by rw [← hG.out, gcdI_zero X hX.out.1]
      have HE := hideR e
      have z1 : hiW 0 = 0 := by decide
      have z2 : loW 0 = 0 := by decide
      rw [z1] at c2
      rw [z2] at c3
      clear hG HD hS HWm e z1 z2
      go_wp2_with fail
      refine bodyPost_ret (v := wv X) (by simp [results, Tryz.results117, go_sem, *]) rfl ⟨by rw [HE.out], ?_⟩
      first | exact set2 hB.out (by omega) _ _ | exact hB.out
    · have p : 0 < Y := by have := hY.out.1; omega
      have HP := hideR p
      have r0 := Int.emod_nonneg X y0
      have r1 := Int.emod_lt_of_pos X p
      have HR : Hid (0 ≤ X % Y ∧ X % Y < Y) := hideR ⟨r0, r1⟩
      have hyl := hilo Y
      have hG2 : Hid (gcdI Y (X % Y) = gcdI M N) := by show gcdI Y (X % Y) = gcdI M N; rw [gcdI_step X Y hX.out.1 p]; exact hG.out
      clear hG r0 r1 p
      by_cases h0 : hiW Y = 0
      · have l0 : ¬ loW Y = 0 := by omega
        clear hyl y0 h0
        go_wp2_with fail
        refine (HD.out X Y _ hX.out hY.out HP.out).mono ?_
        rintro e w1 ⟨rfl, hb⟩
        have S1 := cs_below hS.out hb
        have HS2 : CS ((w1.alloc (.cells #[.int .u64 (hiW (X / Y)), .int .u64 (loW (X / Y))] 167)).alloc (.cells #[.int .u64 (hiW (X % Y)), .int .u64 (loW (X % Y))] 167)) w.heap.size (hiW X) (loW X) (hiW Y) (loW Y) := cs_below S1 (two w1 _ _)
        have hB2 : Below w.heap.size w ((w1.alloc (.cells #[.int .u64 (hiW (X / Y)), .int .u64 (loW (X / Y))] 167)).alloc (.cells #[.int .u64 (hiW (X % Y)), .int .u64 (loW (X % Y))] 167)) := beyond (beyond hB.out hb) (two w1 _ _)
        have d0 : ((w1.alloc (.cells #[.int .u64 (hiW (X / Y)), .int .u64 (loW (X / Y))] 167)).alloc (.cells #[.int .u64 (hiW (X % Y)), .int .u64 (loW (X % Y))] 167)).cell? ⟨w1.heap.size + 1, 0, none⟩ = some (.int .u64 (hiW (X % Y))) := newC2 w1 _ _ _ 0
        have d1 : ((w1.alloc (.cells #[.int .u64 (hiW (X / Y)), .int .u64 (loW (X / Y))] 167)).alloc (.cells #[.int .u64 (hiW (X % Y)), .int .u64 (loW (X % Y))] 167)).cell? ⟨w1.heap.size + 1, 1, none⟩ = some (.int .u64 (loW (X % Y))) := newC2 w1 _ _ _ 1
        have l1 : w.heap.size + 1 + 1 < w1.heap.size := by obtain ⟨c0, c1, c2, c3, c4, c5, f0, f1, f2, f3, f4, f5⟩ := S1; exact World.block_lt_of_cell? _ _ c4
        have HB1 := hideR hB2
        have HS3 := hideR HS2
        clear hb hB hS S1 hB2 HS2 c0 c1 c2 c3 c4 c5 f0 f1 f2 f3 f4 f5 m1 m2 HD hX
        go_upto_region 3 with (fail)
        generalize ((w1.alloc (.cells #[.int .u64 (hiW (X / Y)), .int .u64 (loW (X / Y))] 167)).alloc (.cells #[.int .u64 (hiW (X % Y)), .int .u64 (loW (X % Y))] 167)) = W at *
        have n1 : ¬ w1.heap.size + 1 = w.heap.size := by omega
        have n2 : ¬ w1.heap.size + 1 = w.heap.size + 1 := by omega
        have n3 : ¬ w.heap.size = w1.heap.size + 1 := by omega
        have n4 : ¬ w.heap.size + 1 = w1.heap.size + 1 := by omega
        clear l1
        generalize w1.heap.size + 1 = br at *
        obtain ⟨c0, c1, c2, c3, c4, c5, f0, f1, f2, f3, f4, f5⟩ := HS3.out
        clear c4 c5 f4 f5
        go_wp2_with fail
        go_roundw
        case rel => exact ⟨Y, X % Y, hY, hideR ⟨HR.out.1, by have := HR.out.2; have := hY.out.2; omega⟩, hideR (cs_set HS3.out _ _ _ _), hG2, hideR (set2 (set2 HB1.out (by omega) _ _) (by omega) _ _)⟩
        case measure =>
          have a := wideAt_of (cs_set HS3.out (hiW Y) (loW Y) (hiW (X % Y)) (loW (X % Y)))
          have b := HWm.out
          have c := HR.out
          rw [a, b]
          omega
      · clear hyl y0
        go_wp2_with fail
        refine (HD.out X Y _ hX.out hY.out HP.out).mono ?_
        rintro e w1 ⟨rfl, hb⟩
        have S1 := cs_below hS.out hb
        have HS2 : CS ((w1.alloc (.cells #[.int .u64 (hiW (X / Y)), .int .u64 (loW (X / Y))] 167)).alloc (.cells #[.int .u64 (hiW (X % Y)), .int .u64 (loW (X % Y))] 167)) w.heap.size (hiW X) (loW X) (hiW Y) (loW Y) := cs_below S1 (two w1 _ _)
        have hB2 : Below w.heap.size w ((w1.alloc (.cells #[.int .u64 (hiW (X / Y)), .int .u64 (loW (X / Y))] 167)).alloc (.cells #[.int .u64 (hiW (X % Y)), .int .u64 (loW (X % Y))] 167)) := beyond (beyond hB.out hb) (two w1 _ _)
        have d0 : ((w1.alloc (.cells #[.int .u64 (hiW (X / Y)), .int .u64 (loW (X / Y))] 167)).alloc (.cells #[.int .u64 (hiW (X % Y)), .int .u64 (loW (X % Y))] 167)).cell? ⟨w1.heap.size + 1, 0, none⟩ = some (.int .u64 (hiW (X % Y))) := newC2 w1 _ _ _ 0
        have d1 : ((w1.alloc (.cells #[.int .u64 (hiW (X / Y)), .int .u64 (loW (X / Y))] 167)).alloc (.cells #[.int .u64 (hiW (X % Y)), .int .u64 (loW (X % Y))] 167)).cell? ⟨w1.heap.size + 1, 1, none⟩ = some (.int .u64 (loW (X % Y))) := newC2 w1 _ _ _ 1
        have l1 : w.heap.size + 1 + 1 < w1.heap.size := by obtain ⟨c0, c1, c2, c3, c4, c5, f0, f1, f2, f3, f4, f5⟩ := S1; exact World.block_lt_of_cell? _ _ c4
        have HB1 := hideR hB2
        have HS3 := hideR HS2
        clear hb hB hS S1 hB2 HS2 c0 c1 c2 c3 c4 c5 f0 f1 f2 f3 f4 f5 m1 m2 HD hX
        go_upto_region 3 with (fail)
        generalize ((w1.alloc (.cells #[.int .u64 (hiW (X / Y)), .int .u64 (loW (X / Y))] 167)).alloc (.cells #[.int .u64 (hiW (X % Y)), .int .u64 (loW (X % Y))] 167)) = W at *
        have n1 : ¬ w1.heap.size + 1 = w.heap.size := by omega
        have n2 : ¬ w1.heap.size + 1 = w.heap.size + 1 := by omega
        have n3 : ¬ w.heap.size = w1.heap.size + 1 := by omega
        have n4 : ¬ w.heap.size + 1 = w1.heap.size + 1 := by omega
        clear l1
        generalize w1.heap.size + 1 = br at *
        obtain ⟨c0, c1, c2, c3, c4, c5, f0, f1, f2, f3, f4, f5⟩ := HS3.out
        clear c4 c5 f4 f5
        go_wp2_with fail
        go_roundw
        case rel => exact ⟨Y, X % Y, hY, hideR ⟨HR.out.1, by have := HR.out.2; have := hY.out.2; omega⟩, hideR (cs_set HS3.out _ _ _ _), hG2, hideR (set2 (set2 HB1.out (by omega) _ _) (by omega) _ _)⟩
        case measure =>
          have a := wideAt_of (cs_set HS3.out (hiW Y) (loW Y) (hiW (X % Y)) (loW (X % Y)))
          have b := HWm.out
          have c := HR.out
          rw [a, b]
          omega
set_option maxRecDepth 100000 in
set_option maxHeartbeats 4000000 in
theorem xright_any (n d : Int) (w : World) (hn : I64 n) (hd : I64 d) :
    Calls Tryz.prog 91 #[rv n d] w fun e w' => e = .returned (.bool (rightR n d)) ∧ Below w.heap.size w w' := by
  have bn := sz_bd n hn.1 hn.2
  by_cases c : 0 < d
  · have wd : IntKind.u64.wrap d = d := sz_pos_eq d (by omega) hd.2
    have g0 := gcdI_bd0 (sz n) d
    have g1 := gcdI_le_right (sz n) d c
    have e : rightR n d = decide (gcdI (sz n) d = 1) := by
      simp only [rightR, c, decide_true, Bool.true_and, sz_pos (Int.le_of_lt c)]
      rfl
    have eh : hiW (gcdI (sz n) d) = 0 := hi_small g0 (by have := hd.2; omega)
    have el : loW (gcdI (sz n) d) = gcdI (sz n) d := lo_small g0 (by have := hd.2; omega)
    have HS : Hid (∀ w, Calls Tryz.prog 118 #[.int .i64 n] w fun e w' => e = .returned (.int .u64 (sz n)) ∧ w' = w) := hideR (fun w => xsize_any n w hn.1 hn.2)
    have HC : Hid (∀ w, Calls Tryz.prog 117 #[.agg #[.int .u64 0, .int .u64 (sz n)], .agg #[.int .u64 0, .int .u64 d]] w fun e w' => e = .returned (.agg #[.int .u64 0, .int .u64 (gcdI (sz n) d)]) ∧ Below w.heap.size w w') := by
      show ∀ w, _
      intro w
      have h := xcommon_any (sz n) d w ⟨bn.1, by omega⟩ ⟨by omega, by have := hd.2; omega⟩
      unfold wv at h
      rw [hi_small bn.1 (by omega), lo_small bn.1 (by omega), hi_small (show 0 ≤ d by omega) (by have := hd.2; omega), lo_small (show 0 ≤ d by omega) (by have := hd.2; omega), eh, el] at h
      exact h
    rw [e]
    clear e eh el g0 g1 bn hn hd
    generalize gcdI (sz n) d = G at *
    generalize sz n = x at *
    by_cases hG : G = 1
    · subst hG
      go_enter Tryz.func91, Tryz.ntmps91
      go_wp2
      go_region_held3 (fun w' => w'.cell? ⟨w.heap.size, 0, none⟩ = some (.int .i64 n) ∧ w'.cell? ⟨w.heap.size, 1, none⟩ = some (.int .i64 d))
        (first | exact ⟨by first | assumption | simp [go_sem], by first | assumption | simp [go_sem]⟩ | go_keep)
        (first
          | (go_at_call 118; refine (HS.out _).mono ?_; rintro e' w' ⟨rfl, rfl⟩)
          | (go_at_call 117; refine (HC.out _).mono ?_; rintro e' w' ⟨rfl, hb⟩; have v0 := kc ⟨w.heap.size, 0, none⟩ (.int .i64 n) hb (by first | assumption | simp [go_sem]); have v1 := kc ⟨w.heap.size, 1, none⟩ (.int .i64 d) hb (by first | assumption | simp [go_sem]); have hX := beyond (w := w) (by first | exact Below.drew (single _ _) | exact below_drewN (single _ _) _ | exact single _ _) hb))
      all_goals go_wp2
      all_goals go_ret
      all_goals exact ⟨rfl, by assumption⟩
    · have eG : decide (G = 1) = false := by simpa using hG
      rw [eG]
      clear eG
      go_enter Tryz.func91, Tryz.ntmps91
      go_wp2
      go_region_held3 (fun w' => w'.cell? ⟨w.heap.size, 0, none⟩ = some (.int .i64 n) ∧ w'.cell? ⟨w.heap.size, 1, none⟩ = some (.int .i64 d))
        (first | exact ⟨by first | assumption | simp [go_sem], by first | assumption | simp [go_sem]⟩ | go_keep)
        (first
          | (go_at_call 118; refine (HS.out _).mono ?_; rintro e' w' ⟨rfl, rfl⟩)
          | (go_at_call 117; refine (HC.out _).mono ?_; rintro e' w' ⟨rfl, hb⟩; have v0 := kc ⟨w.heap.size, 0, none⟩ (.int .i64 n) hb (by first | assumption | simp [go_sem]); have v1 := kc ⟨w.heap.size, 1, none⟩ (.int .i64 d) hb (by first | assumption | simp [go_sem]); have hX := beyond (w := w) (by first | exact Below.drew (single _ _) | exact below_drewN (single _ _) _ | exact single _ _) hb))
      all_goals go_wp2
      all_goals go_ret
      all_goals exact ⟨rfl, by assumption⟩
  · have e : rightR n d = false := by simp [rightR, c]
    rw [e]
    have c' : decide (0 < d) = false := by simpa using c
    clear e bn hn hd c
    go_enter Tryz.func91, Tryz.ntmps91
    go_wp2
    go_quiet (fail)
    go_wp2
    go_ret
    exact ⟨rfl, below_drewN (single _ _) _⟩
end Go.Proofs.YtnfkmpickmonoaaGreat

/-
  The contracts of the document's product and sum of fractions, by signs.
-/
namespace Go.Proofs.YtnfkmpickmonoaaGreat
open Go.RowKit Go.Shelf
set_option linter.unusedVariables false
theorem xmul_raw (x y a b : Int) (w : World) (H : Hid (∀ w, Calls Tryz.prog 149 #[.int .u64 x, .int .u64 y] w fun e w' => e = .returned (.tuple #[.int .u64 a, .int .u64 b]) ∧ w' = w)) :
    Calls Tryz.prog 137 #[.int .u64 x, .int .u64 y] w fun e w' => e = .returned (.agg #[.int .u64 a, .int .u64 b]) ∧ Below w.heap.size w w' := by
  go_enter Tryz.func137, Tryz.ntmps137
  go_wp2_with fail
  refine (H.out _).mono ?_
  rintro e w' ⟨rfl, rfl⟩
  go_wp2
  exact bodyPost_ret (v := .agg #[.int .u64 a, .int .u64 b]) (by simp [results, Tryz.results137, go_sem]) rfl ⟨rfl, (Below.refl _ _).alloc (Nat.le_refl _) _⟩
theorem xmul_any (x y : Int) (w : World) (hx : U64 x) (hy : U64 y) :
    Calls Tryz.prog 137 #[.int .u64 x, .int .u64 y] w fun e w' => e = .returned (wv (x * y)) ∧ Below w.heap.size w w' :=
  xmul_raw x y _ _ w (fun w => mul64 x y w hx hy)

theorem set_other {W : World} {b c o : Nat} {v x y : Value} (h : W.cell? ⟨c, o, none⟩ = some v) (n : ¬ b = c) : ((W.setCell ⟨b, 0, none⟩ x).setCell ⟨b, 1, none⟩ y).cell? ⟨c, o, none⟩ = some v := by
  have n' : ¬ c = b := fun e => n e.symm
  simp [go_sem, *]
end Go.Proofs.YtnfkmpickmonoaaGreat

/-
  The contracts of the document's Add, Sub, Mul and Div of fractions, by what they call.
-/
namespace Go.Proofs.YtnfkmpickmonoaaGreat
open Go.RowKit Go.Shelf
set_option linter.unusedVariables false
abbrev AskY (n d : Int) (r : Bool) : Prop := ∀ w, Calls Tryz.prog 91 #[rv n d] w fun e w' => e = .returned (.bool r) ∧ Below w.heap.size w w'
end Go.Proofs.YtnfkmpickmonoaaGreat
