/-
  The contracts of the document's greatest common divisor and of its Right.
-/
import Derived.Test.YteifpplemohdcaaGreatQ38
import Derived.Test.YteifpplemohdcaaGreatQ15
import Derived.Test.YteifpplemohdcaaGreatQ36
import Derived.Test.YteifpplemohdcaaGreatQ21
import Derived.Test.YteifpplemohdcaaGreatQ32
namespace Go.Proofs.YteifpplemohdcaaGreat
open Go.RowKit Go.Shelf
set_option linter.unusedVariables false
def CS (W : World) (s : Nat) (xh xl yh yl : Int) : Prop := W.cell? ⟨s, 0, none⟩ = some (.int .u64 xh) ∧ W.cell? ⟨s, 1, none⟩ = some (.int .u64 xl) ∧ W.cell? ⟨s + 1, 0, none⟩ = some (.int .u64 yh) ∧ W.cell? ⟨s + 1, 1, none⟩ = some (.int .u64 yl) ∧ W.cell? ⟨s + 1 + 1, 0, none⟩ = some (.int .u64 0) ∧ W.cell? ⟨s + 1 + 1, 1, none⟩ = some (.int .u64 0) ∧ W.frozen? ⟨s, 0, none⟩ = false ∧ W.frozen? ⟨s, 1, none⟩ = false ∧ W.frozen? ⟨s + 1, 0, none⟩ = false ∧ W.frozen? ⟨s + 1, 1, none⟩ = false ∧ W.frozen? ⟨s + 1 + 1, 0, none⟩ = false ∧ W.frozen? ⟨s + 1 + 1, 1, none⟩ = false
theorem cs_below {W W' : World} {s : Nat} {xh xl yh yl : Int} (h : CS W s xh xl yh yl) (hb : Below W.heap.size W W') : CS W' s xh xl yh yl := by
  obtain ⟨c0, c1, c2, c3, c4, c5, f0, f1, f2, f3, f4, f5⟩ := h
  exact ⟨kc _ _ hb c0, kc _ _ hb c1, kc _ _ hb c2, kc _ _ hb c3, kc _ _ hb c4, kc _ _ hb c5, kf _ _ hb c0 f0, kf _ _ hb c1 f1, kf _ _ hb c2 f2, kf _ _ hb c3 f3, kf _ _ hb c4 f4, kf _ _ hb c5 f5⟩
theorem cs_set {W : World} {s : Nat} {xh xl yh yl : Int} (h : CS W s xh xl yh yl) (a b c d : Int) : CS ((((W.setCell ⟨s, 0, none⟩ (.int .u64 a)).setCell ⟨s, 1, none⟩ (.int .u64 b)).setCell ⟨s + 1, 0, none⟩ (.int .u64 c)).setCell ⟨s + 1, 1, none⟩ (.int .u64 d)) s a b c d := by
  obtain ⟨c0, c1, c2, c3, c4, c5, f0, f1, f2, f3, f4, f5⟩ := h
  have m1 : ¬ s = s + 1 + 1 := by omega
  have m2 : ¬ s + 1 + 1 = s := by omega
  unfold CS
  simp [go_sem, *]
def wideAt (W : World) (b : Nat) : Nat := (intOf ((W.cell? ⟨b, 0, none⟩).getD undef) * 18446744073709551616 + intOf ((W.cell? ⟨b, 1, none⟩).getD undef)).toNat
theorem wideAt_of {W : World} {s : Nat} {xh xl : Int} {Y : Int} (h : CS W s xh xl (hiW Y) (loW Y)) : wideAt W (s + 1) = Y.toNat := by
  obtain ⟨c0, c1, c2, c3, c4, c5, f0, f1, f2, f3, f4, f5⟩ := h
  unfold wideAt
  rw [c2, c3]
  have := hilo Y
  simp [intOf]
  omega
theorem gcdI_bd0 (a b : Int) : 0 ≤ gcdI a b := by unfold gcdI; omega
set_option maxRecDepth 100000 in
set_option maxHeartbeats 8000000 in
theorem xcommon_any (M N : Int) (w : World) (hM : U128 M) (hN : U128 N) :
    Calls Tryz.prog 110 #[wv M, wv N] w fun e w' => e = .returned (wv (gcdI M N)) ∧ Below w.heap.size w w' := by
  have HD : Hid (∀ X Y w, U128 X → U128 Y → 0 < Y → Calls Tryz.prog 149 #[wv X, wv Y] w fun e w' => e = .returned (.tuple #[wv (X / Y), wv (X % Y)]) ∧ Below w.heap.size w w') := hideR (fun X Y w h1 h2 h3 => xdivide_any X Y w h1 h2 h3)
  have m1 : ¬ w.heap.size = w.heap.size + 1 + 1 := by omega
  have m2 : ¬ w.heap.size + 1 + 1 = w.heap.size := by omega
  have HM := hideR hM
  have HN := hideR hN
  clear hM hN
  go_enter Tryz.func110, Tryz.ntmps110
  go_wp2_with fail
  go_loopw [7] (fun s wr => ∃ X Y : Int, Hid (U128 X) ∧ Hid (U128 Y) ∧ Hid (CS wr w.heap.size (hiW X) (loW X) (hiW Y) (loW Y)) ∧ Hid (gcdI X Y = gcdI M N) ∧ Hid (Below w.heap.size w wr)) (fun _ wr => wideAt wr (w.heap.size + 1))
  case atStart =>
    refine ⟨M, N, HM, HN, hideR ?_, hideR rfl, hideR (three w _ _ _)⟩
    unfold CS
    simp [go_sem]
  case round =>
    obtain ⟨X, Y, hX, hY, hS, hG, hB⟩ := hrel
    have HWm := hideR (wideAt_of hS.out)
    obtain ⟨c0, c1, c2, c3, c4, c5, f0, f1, f2, f3, f4, f5⟩ := hS.out
    by_cases y0 : Y = 0
    · subst y0
      have e : gcdI M N = X := by rw [← hG.out, gcdI_zero X hX.out.1]
      have HE := hideR e
      have z1 : hiW 0 = 0 := by decide
      have z2 : loW 0 = 0 := by decide
      rw [z1] at c2
      rw [z2] at c3
      clear hG HD hS HWm e z1 z2
      go_wp2_with fail
      refine bodyPost_ret (v := wv X) (by simp [results, Tryz.results110, go_sem, *]) rfl ⟨by rw [HE.out], ?_⟩
      first | exact set2 hB.out (by omega) _ _ | exact hB.out
    · have p : 0 < Y := by have := hY.out.1; omega
      have HP := hideR p
      have r0 := Int.emod_nonneg X y0
      have r1 := Int.emod_lt_of_pos X p
      have HR : Hid (0 ≤ X % Y ∧ X % Y < Y) := hideR ⟨r0, r1⟩
      have hyl := hilo Y
      have hG2 : Hid (gcdI Y (X % Y) = gcdI M N) := by show gcdI Y (X % Y) = gcdI M N; rw [gcdI_step X Y hX.out.1 p]; exact hG.out
      clear hG r0 r1 p
      by_cases h0 : hiW Y = 0
      · have l0 : ¬ loW Y = 0 := by omega
        clear hyl y0 h0
        go_wp2_with fail
        refine (HD.out X Y _ hX.out hY.out HP.out).mono ?_
        rintro e w1 ⟨rfl, hb⟩
        have S1 := cs_below hS.out hb
        have HS2 : CS ((w1.alloc (.cells #[.int .u64 (hiW (X / Y)), .int .u64 (loW (X / Y))] 165)).alloc (.cells #[.int .u64 (hiW (X % Y)), .int .u64 (loW (X % Y))] 165)) w.heap.size (hiW X) (loW X) (hiW Y) (loW Y) := cs_below S1 (two w1 _ _)
        have hB2 : Below w.heap.size w ((w1.alloc (.cells #[.int .u64 (hiW (X / Y)), .int .u64 (loW (X / Y))] 165)).alloc (.cells #[.int .u64 (hiW (X % Y)), .int .u64 (loW (X % Y))] 165)) := beyond (beyond hB.out hb) (two w1 _ _)
        have d0 : ((w1.alloc (.cells #[.int .u64 (hiW (X / Y)), .int .u64 (loW (X / Y))] 165)).alloc (.cells #[.int .u64 (hiW (X % Y)), .int .u64 (loW (X % Y))] 165)).cell? ⟨w1.heap.size + 1, 0, none⟩ = some (.int .u64 (hiW (X % Y))) := newC2 w1 _ _ _ 0
        have d1 : ((w1.alloc (.cells #[.int .u64 (hiW (X / Y)), .int .u64 (loW (X / Y))] 165)).alloc (.cells #[.int .u64 (hiW (X % Y)), .int .u64 (loW (X % Y))] 165)).cell? ⟨w1.heap.size + 1, 1, none⟩ = some (.int .u64 (loW (X % Y))) := newC2 w1 _ _ _ 1
        have l1 : w.heap.size + 1 + 1 < w1.heap.size := by obtain ⟨c0, c1, c2, c3, c4, c5, f0, f1, f2, f3, f4, f5⟩ := S1; exact World.block_lt_of_cell? _ _ c4
        have HB1 := hideR hB2
        have HS3 := hideR HS2
        clear hb hB hS S1 hB2 HS2 c0 c1 c2 c3 c4 c5 f0 f1 f2 f3 f4 f5 m1 m2 HD hX
        go_upto_region 3 with (fail)
        generalize ((w1.alloc (.cells #[.int .u64 (hiW (X / Y)), .int .u64 (loW (X / Y))] 165)).alloc (.cells #[.int .u64 (hiW (X % Y)), .int .u64 (loW (X % Y))] 165)) = W at *
        have n1 : ¬ w1.heap.size + 1 = w.heap.size := by omega
        have n2 : ¬ w1.heap.size + 1 = w.heap.size + 1 := by omega
        have n3 : ¬ w.heap.size = w1.heap.size + 1 := by omega
        have n4 : ¬ w.heap.size + 1 = w1.heap.size + 1 := by omega
        clear l1
        generalize w1.heap.size + 1 = br at *
        obtain ⟨c0, c1, c2, c3, c4, c5, f0, f1, f2, f3, f4, f5⟩ := HS3.out
        clear c4 c5 f4 f5
        go_wp2_with fail
        go_roundw
        case rel => exact ⟨Y, X % Y, hY, hideR ⟨HR.out.1, by have := HR.out.2; have := hY.out.2; omega⟩, hideR (cs_set HS3.out _ _ _ _), hG2, hideR (set2 (set2 HB1.out (by omega) _ _) (by omega) _ _)⟩
        case measure =>
          have a := wideAt_of (cs_set HS3.out (hiW Y) (loW Y) (hiW (X % Y)) (loW (X % Y)))
          have b := HWm.out
          have c := HR.out
          rw [a, b]
          omega
      · clear hyl y0
        go_wp2_with fail
        refine (HD.out X Y _ hX.out hY.out HP.out).mono ?_
        rintro e w1 ⟨rfl, hb⟩
        have S1 := cs_below hS.out hb
        have HS2 : CS ((w1.alloc (.cells #[.int .u64 (hiW (X / Y)), .int .u64 (loW (X / Y))] 165)).alloc (.cells #[.int .u64 (hiW (X % Y)), .int .u64 (loW (X % Y))] 165)) w.heap.size (hiW X) (loW X) (hiW Y) (loW Y) := cs_below S1 (two w1 _ _)
        have hB2 : Below w.heap.size w ((w1.alloc (.cells #[.int .u64 (hiW (X / Y)), .int .u64 (loW (X / Y))] 165)).alloc (.cells #[.int .u64 (hiW (X % Y)), .int .u64 (loW (X % Y))] 165)) := beyond (beyond hB.out hb) (two w1 _ _)
        have d0 : ((w1.alloc (.cells #[.int .u64 (hiW (X / Y)), .int .u64 (loW (X / Y))] 165)).alloc (.cells #[.int .u64 (hiW (X % Y)), .int .u64 (loW (X % Y))] 165)).cell? ⟨w1.heap.size + 1, 0, none⟩ = some (.int .u64 (hiW (X % Y))) := newC2 w1 _ _ _ 0
        have d1 : ((w1.alloc (.cells #[.int .u64 (hiW (X / Y)), .int .u64 (loW (X / Y))] 165)).alloc (.cells #[.int .u64 (hiW (X % Y)), .int .u64 (loW (X % Y))] 165)).cell? ⟨w1.heap.size + 1, 1, none⟩ = some (.int .u64 (loW (X % Y))) := newC2 w1 _ _ _ 1
        have l1 : w.heap.size + 1 + 1 < w1.heap.size := by obtain ⟨c0, c1, c2, c3, c4, c5, f0, f1, f2, f3, f4, f5⟩ := S1; exact World.block_lt_of_cell? _ _ c4
        have HB1 := hideR hB2
        have HS3 := hideR HS2
        clear hb hB hS S1 hB2 HS2 c0 c1 c2 c3 c4 c5 f0 f1 f2 f3 f4 f5 m1 m2 HD hX
        go_upto_region 3 with (fail)
        generalize ((w1.alloc (.cells #[.int .u64 (hiW (X / Y)), .int .u64 (loW (X / Y))] 165)).alloc (.cells #[.int .u64 (hiW (X % Y)), .int .u64 (loW (X % Y))] 165)) = W at *
        have n1 : ¬ w1.heap.size + 1 = w.heap.size := by omega
        have n2 : ¬ w1.heap.size + 1 = w.heap.size + 1 := by omega
        have n3 : ¬ w.heap.size = w1.heap.size + 1 := by omega
        have n4 : ¬ w.heap.size + 1 = w1.heap.size + 1 := by omega
        clear l1
        generalize w1.heap.size + 1 = br at *
        obtain ⟨c0, c1, c2, c3, c4, c5, f0, f1, f2, f3, f4, f5⟩ := HS3.out
        clear c4 c5 f4 f5
        go_wp2_with fail
        go_roundw
        case rel => exact ⟨Y, X % Y, hY, hideR ⟨HR.out.1, by have := HR.out.2; have := hY.out.2; omega⟩, hideR (cs_set HS3.out _ _ _ _), hG2, hideR (set2 (set2 HB1.out (by omega) _ _) (by omega) _ _)⟩
        case measure =>
          have a := wideAt_of (cs_set HS3.out (hiW Y) (loW Y) (hiW (X % Y)) (loW (X % Y)))
          have b := HWm.out
          have c := HR.out
          rw [a, b]
          omega
set_option maxRecDepth 100000 in
set_option maxHeartbeats 4000000 in
theorem xright_any (n d : Int) (w : World) (hn : I64 n) (hd : I64 d) :
    Calls Tryz.prog 39 #[rv n d] w fun e w' => e = .returned (.bool (rightR n d)) ∧ Below w.heap.size w w' := by
  have bn := sz_bd n hn.1 hn.2
  by_cases c : 0 < d
  · have wd : IntKind.u64.wrap d = d := sz_pos_eq d (by omega) hd.2
    have g0 := gcdI_bd0 (sz n) d
    have g1 := gcdI_le_right (sz n) d c
    have e : rightR n d = decide (gcdI (sz n) d = 1) := by
      simp only [rightR, c, decide_true, Bool.true_and, sz_pos (Int.le_of_lt c)]
      rfl
    have eh : hiW (gcdI (sz n) d) = 0 := hi_small g0 (by have := hd.2; omega)
    have el : loW (gcdI (sz n) d) = gcdI (sz n) d := lo_small g0 (by have := hd.2; omega)
    have HS : Hid (∀ w, Calls Tryz.prog 111 #[.int .i64 n] w fun e w' => e = .returned (.int .u64 (sz n)) ∧ w' = w) := hideR (fun w => xsize_any n w hn.1 hn.2)
    have HC : Hid (∀ w, Calls Tryz.prog 110 #[.agg #[.int .u64 0, .int .u64 (sz n)], .agg #[.int .u64 0, .int .u64 d]] w fun e w' => e = .returned (.agg #[.int .u64 0, .int .u64 (gcdI (sz n) d)]) ∧ Below w.heap.size w w') := by
      show ∀ w, _
      intro w
      have h := xcommon_any (sz n) d w ⟨bn.1, by omega⟩ ⟨by omega, by have := hd.2; omega⟩
      unfold wv at h
      rw [hi_small bn.1 (by omega), lo_small bn.1 (by omega), hi_small (show 0 ≤ d by omega) (by have := hd.2; omega), lo_small (show 0 ≤ d by omega) (by have := hd.2; omega), eh, el] at h
      exact h
    rw [e]
    clear e eh el g0 g1 bn hn hd
    generalize gcdI (sz n) d = G at *
    generalize sz n = x at *
    by_cases hG : G = 1
    · subst hG
      go_enter Tryz.func39, Tryz.ntmps39
      go_wp2
      go_region_held3 (fun w' => w'.cell? ⟨w.heap.size, 0, none⟩ = some (.int .i64 n) ∧ w'.cell? ⟨w.heap.size, 1, none⟩ = some (.int .i64 d))
        (first | exact ⟨by first | assumption | simp [go_sem], by first | assumption | simp [go_sem]⟩ | go_keep)
        (first
          | (go_at_call 111; refine (HS.out _).mono ?_; rintro e' w' ⟨rfl, rfl⟩)
          | (go_at_call 110; refine (HC.out _).mono ?_; rintro e' w' ⟨rfl, hb⟩; have v0 := kc ⟨w.heap.size, 0, none⟩ (.int .i64 n) hb (by first | assumption | simp [go_sem]); have v1 := kc ⟨w.heap.size, 1, none⟩ (.int .i64 d) hb (by first | assumption | simp [go_sem]); have hX := beyond (w := w) (by first | exact Below.drew (single _ _) | exact below_drewN (single _ _) _ | exact single _ _) hb))
      all_goals go_wp2
      all_goals go_ret
      all_goals exact ⟨rfl, by assumption⟩
    · have eG : decide (G = 1) = false := by simpa using hG
      rw [eG]
      clear eG
      go_enter Tryz.func39, Tryz.ntmps39
      go_wp2
      go_region_held3 (fun w' => w'.cell? ⟨w.heap.size, 0, none⟩ = some (.int .i64 n) ∧ w'.cell? ⟨w.heap.size, 1, none⟩ = some (.int .i64 d))
        (first | exact ⟨by first | assumption | simp [go_sem], by first | assumption | simp [go_sem]⟩ | go_keep)
        (first
          | (go_at_call 111; refine (HS.out _).mono ?_; rintro e' w' ⟨rfl, rfl⟩)
          | (go_at_call 110; refine (HC.out _).mono ?_; rintro e' w' ⟨rfl, hb⟩; have v0 := kc ⟨w.heap.size, 0, none⟩ (.int .i64 n) hb (by first | assumption | simp [go_sem]); have v1 := kc ⟨w.heap.size, 1, none⟩ (.int .i64 d) hb (by first | assumption | simp [go_sem]); have hX := beyond (w := w) (by first | exact Below.drew (single _ _) | exact below_drewN (single _ _) _ | exact single _ _) hb))
      all_goals go_wp2
      all_goals go_ret
      all_goals exact ⟨rfl, by assumption⟩
  · have e : rightR n d = false := by simp [rightR, c]
    rw [e]
    have c' : decide (0 < d) = false := by simpa using c
    clear e bn hn hd c
    go_enter Tryz.func39, Tryz.ntmps39
    go_wp2
    go_quiet (fail)
    go_wp2
    go_ret
    exact ⟨rfl, below_drewN (single _ _) _⟩
end Go.Proofs.YteifpplemohdcaaGreat

/-
  The contracts of the document's Add, Sub, Mul and Div of fractions, by what they call.
-/
namespace Go.Proofs.YteifpplemohdcaaGreat
open Go.RowKit Go.Shelf
set_option linter.unusedVariables false
abbrev AskY (n d : Int) (r : Bool) : Prop := ∀ w, Calls Tryz.prog 39 #[rv n d] w fun e w' => e = .returned (.bool r) ∧ Below w.heap.size w w'
end Go.Proofs.YteifpplemohdcaaGreat

/-
  The contracts of the document's Add, Sub, Mul, Div and Compare of fractions, for all arguments: what they answer is what the plain functions addT, subT, mulT, divT and cmpV say.
-/
namespace Go.Proofs.YteifpplemohdcaaGreat
open Go.RowKit Go.Shelf
set_option linter.unusedVariables false
theorem askY (n d : Int) (hn : I64 n) (hd : I64 d) : AskY n d (rightR n d) := fun w => xright_any n d w hn hd
end Go.Proofs.YteifpplemohdcaaGreat

/-
  Spans of delays: behind a delay a valuation is in the zone just if the delay is of the span.
-/
namespace Go.Proofs.YteifpplemohdcaaGreat
open Go.RowKit Go.Shelf
set_option linter.unusedVariables false
set_option maxRecDepth 100000
theorem right_one (n : Int) : rightR n 1 = true := right_iff.2 ⟨by decide, (co_all (sz_nn _) (by decide)).2 fun k k0 _ h => Int.eq_one_of_dvd_one k0 h⟩
/-- What holds of all ends holds of those that are left. -/
theorem ends_all {n mm : Nat} {c : Row} {L : Rats} (G : End → Prop) (hU : ∀ k, k < mm → isUp n c k → G (endUp n c L k)) (hF : ∀ k, k < mm → isFrom n c k → G (endFrom n c L k)) (l : List (Fin mm)) (s : DSt) (hl : G s.lo) (hh : s.fv = false → G s.hi) :
    G (l.foldl (fun s k => dStep n c L s k.val) s).lo ∧ ((l.foldl (fun s k => dStep n c L s k.val) s).fv = false → G (l.foldl (fun s k => dStep n c L s k.val) s).hi) := by
  induction l generalizing s with
  | nil => exact ⟨hl, hh⟩
  | cons k l ih =>
    rw [List.foldl_cons]
    have key : G (dStep n c L s k.val).lo ∧ ((dStep n c L s k.val).fv = false → G (dStep n c L s k.val).hi) := by
      unfold dStep
      by_cases f : finB (c k.val) = true
      · rw [if_pos f]
        by_cases u : ¬ k.val / (n + 1) = 0 ∧ k.val % (n + 1) = 0
        · rw [if_pos u]
          have := hU k.val k.isLt ⟨f, u⟩
          unfold upS
          split
          · exact ⟨hl, fun _ => this⟩
          · split
            · exact ⟨hl, fun _ => this⟩
            · exact ⟨hl, hh⟩
        · rw [if_neg u]
          by_cases g : k.val / (n + 1) = 0 ∧ ¬ k.val % (n + 1) = 0
          · rw [if_pos g]
            have := hF k.val k.isLt ⟨f, g⟩
            unfold fromS
            split
            · exact ⟨this, hh⟩
            · exact ⟨hl, hh⟩
          · rw [if_neg g]
            exact ⟨hl, hh⟩
      · rw [if_neg f]
        exact ⟨hl, hh⟩
    exact ih _ key.1 key.2
/-- A wait, clock by clock. -/
theorem wait_ok {an ad dn dd : Int} (h : okR an ad = true) (hd : okR dn dd = true) (z : (addT an ad dn dd).2.2 = 0) :
    okR (addT an ad dn dd).1 (addT an ad dn dd).2.1 = true ∧ I64 (addT an ad dn dd).1 ∧ I64 (addT an ad dn dd).2.1 ∧ (addT an ad dn dd).1 * (ad * dd) = (an * dd + dn * ad) * (addT an ad dn dd).2.1 := by
  obtain ⟨r1, n1⟩ := okR_iff.1 h
  obtain ⟨r2, n2⟩ := okR_iff.1 hd
  have p1 := (right_pos r1).1
  have p2 := (right_pos r2).1
  have e : addT an ad dn dd = canR (an * dd + dn * ad) (ad * dd) := by
    unfold addT
    rw [r1, r2]
    rfl
  rw [e] at z ⊢
  have pp := Int.mul_pos p1 p2
  obtain ⟨k1, k2, k3, k4, k5⟩ := can_ok pp z
  obtain ⟨s1, s2⟩ := can_sign pp z
  have q1 : 0 ≤ an * dd := Int.mul_nonneg n1 (by omega)
  have q2 : 0 ≤ dn * ad := Int.mul_nonneg n2 (by omega)
  exact ⟨okR_iff.2 ⟨k1, by omega⟩, ⟨k3, k4⟩, ⟨by have := (right_pos k1).1; omega, k5⟩, k2⟩
theorem wait_parts {M an ad dn dd n' d' : Int} (p1 : 0 < ad) (p2 : 0 < dd) (d1 : ad ∣ M) (d2 : dd ∣ M) (e : n' * (ad * dd) = (an * dd + dn * ad) * d') : (parts M an ad + parts M dn dd) * d' = n' * M := by
  have pp := Int.mul_pos p1 p2
  have a1 : parts M an ad * ad = an * M := parts_eq d1
  have a2 : parts M dn dd * dd = dn * M := parts_eq d2
  generalize parts M an ad = X at *
  generalize parts M dn dd = Y at *
  have k : (X + Y) * (ad * dd) = M * (an * dd + dn * ad) := by
    rw [Int.add_mul, ← Int.mul_assoc, a1, Int.mul_comm ad dd, ← Int.mul_assoc, a2, Int.mul_add]
    have x1 : an * M * dd = M * (an * dd) := by rw [Int.mul_comm an M, Int.mul_assoc]
    have x2 : dn * M * ad = M * (dn * ad) := by rw [Int.mul_comm dn M, Int.mul_assoc]
    omega
  have : (X + Y) * d' * (ad * dd) = n' * M * (ad * dd) := by
    rw [Int.mul_assoc, Int.mul_comm d', ← Int.mul_assoc, k, Int.mul_assoc, ← e, Int.mul_left_comm, Int.mul_assoc n' M]
  exact Int.eq_of_mul_eq_mul_right (by omega) this
end Go.Proofs.YteifpplemohdcaaGreat

/-
  In of point, in D parts; a valuation behind a delay, and with a clock set, in D parts.
-/
namespace Go.Proofs.YteifpplemohdcaaGreat
open Go.RowKit
set_option linter.unusedVariables false
set_option maxRecDepth 100000
/-- The numbers of a valuation in D parts, that of 0 first. -/
def pV (D : Int) (L : Rats) (i : Nat) : Int := if i = 0 then 0 else if i ≤ L.q then parts D (L.n (i - 1)) (L.d (i - 1)) else 0
theorem okR_pos {a b : Int} (h : okR a b = true) : 0 ≤ a ∧ 0 < b := by
  unfold okR at h
  simp only [Bool.and_eq_true, decide_eq_true_eq] at h
  have := (right_iff.1 h.1).1
  omega
theorem pV_pt {D : Int} {L : Rats} {n : Nat} (hn : n ≤ 8) (hD : 1 ≤ D) (hf : fitB L n = true) : Pt (pV D L) := by
  obtain ⟨hq, hk⟩ := (fitB_iff hn).1 hf
  refine ⟨rfl, fun i => ?_⟩
  unfold pV
  split
  · exact Int.le_refl _
  · split
    · have h := okR_pos (hk (i - 1) (by omega))
      exact Int.mul_nonneg h.1 (Int.ediv_nonneg (by omega) (by omega))
    · exact Int.le_refl _
theorem in_says {n m : Nat} {c : Row} {L : Rats} {D : Int} (hn : n ≤ 8) (hm : m = (n + 1) * (n + 1)) (hc : ∀ k, rightB (c k) = true) (hf : fitB L n = true) (hD : 1 ≤ D) (dv : ∀ k, k < n → L.d k ∣ D) : inB n m c L = inV n m c (pV D L) D := by
  obtain ⟨hq, hk⟩ := (fitB_iff hn).1 hf
  have h : ∀ i, i ≤ n → 0 < (aheadL L).d i ∧ pV D L i * (aheadL L).d i = (aheadL L).n i * D := fun i hi => by
    unfold aheadL pV
    simp only
    by_cases e : i = 0
    · rw [if_pos e, if_pos e, if_pos e]; omega
    · rw [if_neg e, if_neg e, if_neg e, if_pos (by omega)]
      exact ⟨(okR_pos (hk _ (by omega))).2, parts_eq (dv _ (by omega))⟩
  unfold inB inV
  rw [hf, Bool.true_and, Bool.eq_iff_iff, kB_iff]
  unfold allK
  rw [List.all_eq_true]
  constructor
  · intro H i j hi hj
    have hp : i * (n + 1) + j < m := by rw [hm]; exact pos_lt hi hj
    have := H (i * (n + 1) + j) (List.mem_range.2 hp)
    rw [keepAt_parts (by omega) (hc _) h (by rw [← hm]; exact hp), place_div hj, place_mod hj] at this
    rw [listOf_get _ _ _ hp]; exact this
  · intro H k hk'
    have hk' := List.mem_range.1 hk'
    rw [keepAt_parts (by omega) (hc _) h (by rw [← hm]; exact hk')]
    have hi : k / (n + 1) ≤ n := by have := (Nat.div_lt_iff_lt_mul (show 0 < n + 1 by omega)).2 (by rw [← hm]; exact hk'); omega
    have hj : k % (n + 1) ≤ n := by have := Nat.mod_lt k (show 0 < n + 1 by omega); omega
    have := H _ _ hi hj
    rw [show k / (n + 1) * (n + 1) + k % (n + 1) = k by rw [Nat.mul_comm]; exact Nat.div_add_mod k (n + 1), listOf_get _ _ _ hk'] at this
    exact this
end Go.Proofs.YteifpplemohdcaaGreat
