/-
  The contracts of the document's greatest common divisor and of its Right.
-/
import Derived.Test.YteifpplemohdcaaGreatDoorQ24
import Derived.Test.YteifpplemohdcaaGreatDoorQ19
import Derived.Test.YteifpplemohdcaaGreatDoorQ22
namespace Go.Proofs.YteifpplemohdcaaGreatDoor
open Go.RowKit Go.Shelf
set_option linter.unusedVariables false
def CS (W : World) (s : Nat) (xh xl yh yl : Int) : Prop := W.cell? ⟨s, 0, none⟩ = some (.int .u64 xh) ∧ W.cell? ⟨s, 1, none⟩ = some (.int .u64 xl) ∧ W.cell? ⟨s + 1, 0, none⟩ = some (.int .u64 yh) ∧ W.cell? ⟨s + 1, 1, none⟩ = some (.int .u64 yl) ∧ W.cell? ⟨s + 1 + 1, 0, none⟩ = some (.int .u64 0) ∧ W.cell? ⟨s + 1 + 1, 1, none⟩ = some (.int .u64 0) ∧ W.frozen? ⟨s, 0, none⟩ = false ∧ W.frozen? ⟨s, 1, none⟩ = false ∧ W.frozen? ⟨s + 1, 0, none⟩ = false ∧ W.frozen? ⟨s + 1, 1, none⟩ = false ∧ W.frozen? ⟨s + 1 + 1, 0, none⟩ = false ∧ W.frozen? ⟨s + 1 + 1, 1, none⟩ = false
theorem cs_below {W W' : World} {s : Nat} {xh xl yh yl : Int} (h : CS W s xh xl yh yl) (hb : Below W.heap.size W W') : CS W' s xh xl yh yl := by
  obtain ⟨c0, c1, c2, c3, c4, c5, f0, f1, f2, f3, f4, f5⟩ := h
  exact ⟨kc _ _ hb c0, kc _ _ hb c1, kc _ _ hb c2, kc _ _ hb c3, kc _ _ hb c4, kc _ _ hb c5, kf _ _ hb c0 f0, kf _ _ hb c1 f1, kf _ _ hb c2 f2, kf _ _ hb c3 f3, kf _ _ hb c4 f4, kf _ _ hb c5 f5⟩
theorem cs_set {W : World} {s : Nat} {xh xl yh yl : Int} (h : CS W s xh xl yh yl) (a b c d : Int) : CS ((((W.setCell ⟨s, 0, none⟩ (.int .u64 a)).setCell ⟨s, 1, none⟩ (.int .u64 b)).setCell ⟨s + 1, 0, none⟩ (.int .u64 c)).setCell ⟨s + 1, 1, none⟩ (.int .u64 d)) s a b c d := by
  obtain ⟨c0, c1, c2, c3, c4, c5, f0, f1, f2, f3, f4, f5⟩ := h
  have m1 : ¬ s = s + 1 + 1 := by omega
  have m2 : ¬ s + 1 + 1 = s := by omega
  unfold CS
  simp [go_sem, *]
def wideAt (W : World) (b : Nat) : Nat := (intOf ((W.cell? ⟨b, 0, none⟩).getD undef) * 18446744073709551616 + intOf ((W.cell? ⟨b, 1, none⟩).getD undef)).toNat
theorem wideAt_of {W : World} {s : Nat} {xh xl : Int} {Y : Int} (h : CS W s xh xl (hiW Y) (loW Y)) : wideAt W (s + 1) = Y.toNat := by
  obtain ⟨c0, c1, c2, c3, c4, c5, f0, f1, f2, f3, f4, f5⟩ := h
  unfold wideAt
  rw [c2, c3]
  have := hilo Y
  simp [intOf]
  omega
theorem gcdI_bd0 (a b : Int) : 0 ≤ gcdI a b := by unfold gcdI; omega
set_option maxRecDepth 100000 in
set_option maxHeartbeats 8000000 in
theorem xcommon_any (M N : Int) (w : World) (hM : U128 M) (hN : U128 N) :
    Calls Tryz.prog 66 #[wv M, wv N] w fun e w' => e = .returned (wv (gcdI M N)) ∧ Below w.heap.size w w' := by
  have HD : Hid (∀ X Y w, U128 X → U128 Y → 0 < Y → Calls Tryz.prog 94 #[wv X, wv Y] w fun e w' => e = .returned (.tuple #[wv (X / Y), wv (X % Y)]) ∧ Below w.heap.size w w') := hideR (fun X Y w h1 h2 h3 => xdivide_any X Y w h1 h2 h3)
  have m1 : ¬ w.heap.size = w.heap.size + 1 + 1 := by omega
  have m2 : ¬ w.heap.size + 1 + 1 = w.heap.size := by omega
  have HM := hideR hM
  have HN := hideR hN
  clear hM hN
  go_enter Tryz.func66, Tryz.ntmps66
  go_wp2_with fail
  go_loopw [7] (fun s wr => ∃ X Y : Int, Hid (U128 X) ∧ Hid (U128 Y) ∧ Hid (CS wr w.heap.size (hiW X) (loW X) (hiW Y) (loW Y)) ∧ Hid (gcdI X Y = gcdI M N) ∧ Hid (Below w.heap.size w wr)) (fun _ wr => wideAt wr (w.heap.size + 1))
  case atStart =>
    refine ⟨M, N, HM, HN, hideR ?_, hideR rfl, hideR (three w _ _ _)⟩
    unfold CS
    simp [go_sem]
  case round =>
    obtain ⟨X, Y, hX, hY, hS, hG, hB⟩ := hrel
    have HWm := hideR (wideAt_of hS.out)
    obtain ⟨c0, c1, c2, c3, c4, c5, f0, f1, f2, f3, f4, f5⟩ := hS.out
    by_cases y0 : Y = 0
    · subst y0
      have e : gcdI M N = X := by rw [← hG.out, gcdI_zero X hX.out.1]
      have HE := hideR e
      have z1 : hiW 0 = 0 := by decide
      have z2 : loW 0 = 0 := by decide
      rw [z1] at c2
      rw [z2] at c3
      clear hG HD hS HWm e z1 z2
      go_wp2_with fail
      refine bodyPost_ret (v := wv X) (by simp [results, Tryz.results66, go_sem, *]) rfl ⟨by rw [HE.out], ?_⟩
      first | exact set2 hB.out (by omega) _ _ | exact hB.out
    · have p : 0 < Y := by have := hY.out.1; omega
      have HP := hideR p
      have r0 := Int.emod_nonneg X y0
      have r1 := Int.emod_lt_of_pos X p
      have HR : Hid (0 ≤ X % Y ∧ X % Y < Y) := hideR ⟨r0, r1⟩
      have hyl := hilo Y
      have hG2 : Hid (gcdI Y (X % Y) = gcdI M N) := by show gcdI Y (X % Y) = gcdI M N; rw [gcdI_step X Y hX.out.1 p]; exact hG.out
      clear hG r0 r1 p
      by_cases h0 : hiW Y = 0
      · have l0 : ¬ loW Y = 0 := by omega
        clear hyl y0 h0
        go_wp2_with fail
        refine (HD.out X Y _ hX.out hY.out HP.out).mono ?_
        rintro e w1 ⟨rfl, hb⟩
        have S1 := cs_below hS.out hb
        have HS2 : CS ((w1.alloc (.cells #[.int .u64 (hiW (X / Y)), .int .u64 (loW (X / Y))] 114)).alloc (.cells #[.int .u64 (hiW (X % Y)), .int .u64 (loW (X % Y))] 114)) w.heap.size (hiW X) (loW X) (hiW Y) (loW Y) := cs_below S1 (two w1 _ _)
        have hB2 : Below w.heap.size w ((w1.alloc (.cells #[.int .u64 (hiW (X / Y)), .int .u64 (loW (X / Y))] 114)).alloc (.cells #[.int .u64 (hiW (X % Y)), .int .u64 (loW (X % Y))] 114)) := beyond (beyond hB.out hb) (two w1 _ _)
        have d0 : ((w1.alloc (.cells #[.int .u64 (hiW (X / Y)), .int .u64 (loW (X / Y))] 114)).alloc (.cells #[.int .u64 (hiW (X % Y)), .int .u64 (loW (X % Y))] 114)).cell? ⟨w1.heap.size + 1, 0, none⟩ = some (.int .u64 (hiW (X % Y))) := newC2 w1 _ _ _ 0
        have d1 : ((w1.alloc (.cells #[.int .u64 (hiW (X / Y)), .int .u64 (loW (X / Y))] 114)).alloc (.cells #[.int .u64 (hiW (X % Y)), .int .u64 (loW (X % Y))] 114)).cell? ⟨w1.heap.size + 1, 1, none⟩ = some (.int .u64 (loW (X % Y))) := newC2 w1 _ _ _ 1
        have l1 : w.heap.size + 1 + 1 < w1.heap.size := by obtain ⟨c0, c1, c2, c3, c4, c5, f0, f1, f2, f3, f4, f5⟩ := S1; exact World.block_lt_of_cell? _ _ c4
        have HB1 := hideR hB2
        have HS3 := hideR HS2
        clear hb hB hS S1 hB2 HS2 c0 c1 c2 c3 c4 c5 f0 f1 f2 f3 f4 f5 m1 m2 HD hX
        go_upto_region 3 with (fail)
        generalize ((w1.alloc (.cells #[.int .u64 (hiW (X / Y)), .int .u64 (loW (X / Y))] 114)).alloc (.cells #[.int .u64 (hiW (X % Y)), .int .u64 (loW (X % Y))] 114)) = W at *
        have n1 : ¬ w1.heap.size + 1 = w.heap.size := by omega
        have n2 : ¬ w1.heap.size + 1 = w.heap.size + 1 := by omega
        have n3 : ¬ w.heap.size = w1.heap.size + 1 := by omega
        have n4 : ¬ w.heap.size + 1 = w1.heap.size + 1 := by omega
        clear l1
        generalize w1.heap.size + 1 = br at *
        obtain ⟨c0, c1, c2, c3, c4, c5, f0, f1, f2, f3, f4, f5⟩ := HS3.out
        clear c4 c5 f4 f5
        go_wp2_with fail
        go_roundw
        case rel => exact ⟨Y, X % Y, hY, hideR ⟨HR.out.1, by have := HR.out.2; have := hY.out.2; omega⟩, hideR (cs_set HS3.out _ _ _ _), hG2, hideR (set2 (set2 HB1.out (by omega) _ _) (by omega) _ _)⟩
        case measure =>
          have a := wideAt_of (cs_set HS3.out (hiW Y) (loW Y) (hiW (X % Y)) (loW (X % Y)))
          have b := HWm.out
          have c := HR.out
          rw [a, b]
          omega
      · clear hyl y0
        go_wp2_with fail
        refine (HD.out X Y _ hX.out hY.out HP.out).mono ?_
        rintro e w1 ⟨rfl, hb⟩
        have S1 := cs_below hS.out hb
        have HS2 : CS ((w1.alloc (.cells #[.int .u64 (hiW (X / Y)), .int .u64 (loW (X / Y))] 114)).alloc (.cells #[.int .u64 (hiW (X % Y)), .int .u64 (loW (X % Y))] 114)) w.heap.size (hiW X) (loW X) (hiW Y) (loW Y) := cs_below S1 (two w1 _ _)
        have hB2 : Below w.heap.size w ((w1.alloc (.cells #[.int .u64 (hiW (X / Y)), .int .u64 (loW (X / Y))] 114)).alloc (.cells #[.int .u64 (hiW (X % Y)), .int .u64 (loW (X % Y))] 114)) := beyond (beyond hB.out hb) (two w1 _ _)
        have d0 : ((w1.alloc (.cells #[.int .u64 (hiW (X / Y)), .int .u64 (loW (X / Y))] 114)).alloc (.cells #[.int .u64 (hiW (X % Y)), .int .u64 (loW (X % Y))] 114)).cell? ⟨w1.heap.size + 1, 0, none⟩ = some (.int .u64 (hiW (X % Y))) := newC2 w1 _ _ _ 0
        have d1 : ((w1.alloc (.cells #[.int .u64 (hiW (X / Y)), .int .u64 (loW (X / Y))] 114)).alloc (.cells #[.int .u64 (hiW (X % Y)), .int .u64 (loW (X % Y))] 114)).cell? ⟨w1.heap.size + 1, 1, none⟩ = some (.int .u64 (loW (X % Y))) := newC2 w1 _ _ _ 1
        have l1 : w.heap.size + 1 + 1 < w1.heap.size := by obtain ⟨c0, c1, c2, c3, c4, c5, f0, f1, f2, f3, f4, f5⟩ := S1; exact World.block_lt_of_cell? _ _ c4
        have HB1 := hideR hB2
        have HS3 := hideR HS2
        clear hb hB hS S1 hB2 HS2 c0 c1 c2 c3 c4 c5 f0 f1 f2 f3 f4 f5 m1 m2 HD hX
        go_upto_region 3 with (fail)
        generalize ((w1.alloc (.cells #[.int .u64 (hiW (X / Y)), .int .u64 (loW (X / Y))] 114)).alloc (.cells #[.int .u64 (hiW (X % Y)), .int .u64 (loW (X % Y))] 114)) = W at *
        have n1 : ¬ w1.heap.size + 1 = w.heap.size := by omega
        have n2 : ¬ w1.heap.size + 1 = w.heap.size + 1 := by omega
        have n3 : ¬ w.heap.size = w1.heap.size + 1 := by omega
        have n4 : ¬ w.heap.size + 1 = w1.heap.size + 1 := by omega
        clear l1
        generalize w1.heap.size + 1 = br at *
        obtain ⟨c0, c1, c2, c3, c4, c5, f0, f1, f2, f3, f4, f5⟩ := HS3.out
        clear c4 c5 f4 f5
        go_wp2_with fail
        go_roundw
        case rel => exact ⟨Y, X % Y, hY, hideR ⟨HR.out.1, by have := HR.out.2; have := hY.out.2; omega⟩, hideR (cs_set HS3.out _ _ _ _), hG2, hideR (set2 (set2 HB1.out (by omega) _ _) (by omega) _ _)⟩
        case measure =>
          have a := wideAt_of (cs_set HS3.out (hiW Y) (loW Y) (hiW (X % Y)) (loW (X % Y)))
          have b := HWm.out
          have c := HR.out
          rw [a, b]
          omega
set_option maxRecDepth 100000 in
set_option maxHeartbeats 4000000 in
theorem xright_any (n d : Int) (w : World) (hn : I64 n) (hd : I64 d) :
    Calls Tryz.prog 31 #[rv n d] w fun e w' => e = .returned (.bool (rightR n d)) ∧ Below w.heap.size w w' := by
  have bn := sz_bd n hn.1 hn.2
  by_cases c : 0 < d
  · have wd : IntKind.u64.wrap d = d := sz_pos_eq d (by omega) hd.2
    have g0 := gcdI_bd0 (sz n) d
    have g1 := gcdI_le_right (sz n) d c
    have e : rightR n d = decide (gcdI (sz n) d = 1) := by
      simp only [rightR, c, decide_true, Bool.true_and, sz_pos (Int.le_of_lt c)]
      rfl
    have eh : hiW (gcdI (sz n) d) = 0 := hi_small g0 (by have := hd.2; omega)
    have el : loW (gcdI (sz n) d) = gcdI (sz n) d := lo_small g0 (by have := hd.2; omega)
    have HS : Hid (∀ w, Calls Tryz.prog 67 #[.int .i64 n] w fun e w' => e = .returned (.int .u64 (sz n)) ∧ w' = w) := hideR (fun w => xsize_any n w hn.1 hn.2)
    have HC : Hid (∀ w, Calls Tryz.prog 66 #[.agg #[.int .u64 0, .int .u64 (sz n)], .agg #[.int .u64 0, .int .u64 d]] w fun e w' => e = .returned (.agg #[.int .u64 0, .int .u64 (gcdI (sz n) d)]) ∧ Below w.heap.size w w') := by
      show ∀ w, _
      intro w
      have h := xcommon_any (sz n) d w ⟨bn.1, by omega⟩ ⟨by omega, by have := hd.2; omega⟩
      unfold wv at h
      rw [hi_small bn.1 (by omega), lo_small bn.1 (by omega), hi_small (show 0 ≤ d by omega) (by have := hd.2; omega), lo_small (show 0 ≤ d by omega) (by have := hd.2; omega), eh, el] at h
      exact h
    rw [e]
    clear e eh el g0 g1 bn hn hd
    generalize gcdI (sz n) d = G at *
    generalize sz n = x at *
    by_cases hG : G = 1
    · subst hG
      go_enter Tryz.func31, Tryz.ntmps31
      go_wp2
      go_region_held3 (fun w' => w'.cell? ⟨w.heap.size, 0, none⟩ = some (.int .i64 n) ∧ w'.cell? ⟨w.heap.size, 1, none⟩ = some (.int .i64 d))
        (first | exact ⟨by first | assumption | simp [go_sem], by first | assumption | simp [go_sem]⟩ | go_keep)
        (first
          | (go_at_call 67; refine (HS.out _).mono ?_; rintro e' w' ⟨rfl, rfl⟩)
          | (go_at_call 66; refine (HC.out _).mono ?_; rintro e' w' ⟨rfl, hb⟩; have v0 := kc ⟨w.heap.size, 0, none⟩ (.int .i64 n) hb (by first | assumption | simp [go_sem]); have v1 := kc ⟨w.heap.size, 1, none⟩ (.int .i64 d) hb (by first | assumption | simp [go_sem]); have hX := beyond (w := w) (by first | exact Below.drew (single _ _) | exact below_drewN (single _ _) _ | exact single _ _) hb))
      all_goals go_wp2
      all_goals go_ret
      all_goals exact ⟨rfl, by assumption⟩
    · have eG : decide (G = 1) = false := by simpa using hG
      rw [eG]
      clear eG
      go_enter Tryz.func31, Tryz.ntmps31
      go_wp2
      go_region_held3 (fun w' => w'.cell? ⟨w.heap.size, 0, none⟩ = some (.int .i64 n) ∧ w'.cell? ⟨w.heap.size, 1, none⟩ = some (.int .i64 d))
        (first | exact ⟨by first | assumption | simp [go_sem], by first | assumption | simp [go_sem]⟩ | go_keep)
        (first
          | (go_at_call 67; refine (HS.out _).mono ?_; rintro e' w' ⟨rfl, rfl⟩)
          | (go_at_call 66; refine (HC.out _).mono ?_; rintro e' w' ⟨rfl, hb⟩; have v0 := kc ⟨w.heap.size, 0, none⟩ (.int .i64 n) hb (by first | assumption | simp [go_sem]); have v1 := kc ⟨w.heap.size, 1, none⟩ (.int .i64 d) hb (by first | assumption | simp [go_sem]); have hX := beyond (w := w) (by first | exact Below.drew (single _ _) | exact below_drewN (single _ _) _ | exact single _ _) hb))
      all_goals go_wp2
      all_goals go_ret
      all_goals exact ⟨rfl, by assumption⟩
  · have e : rightR n d = false := by simp [rightR, c]
    rw [e]
    have c' : decide (0 < d) = false := by simpa using c
    clear e bn hn hd c
    go_enter Tryz.func31, Tryz.ntmps31
    go_wp2
    go_quiet (fail)
    go_wp2
    go_ret
    exact ⟨rfl, below_drewN (single _ _) _⟩
end Go.Proofs.YteifpplemohdcaaGreatDoor

/-
  The document's Print of every fraction.
-/
namespace Go.Proofs.YteifpplemohdcaaGreatDoor
open Go.RowKit Go.Shelf
set_option linter.unusedVariables false
abbrev AskY (n d : Int) (r : Bool) : Prop := ∀ w, Calls Tryz.prog 31 #[rv n d] w fun e w' => e = .returned (.bool r) ∧ Below w.heap.size w w'
theorem askY (n d : Int) (hn : I64 n) (hd : I64 d) : AskY n d (rightR n d) := fun w => xright_any n d w hn hd
theorem yprint_wrong (n d : Int) (w : World) (HR : Hid (AskY n d false)) :
    Calls Tryz.prog 23 #[rv n d] w fun e w' => e = .returned (.string ⟨#[]⟩) ∧ Below w.heap.size w w' := by
  go_enter Tryz.func23, Tryz.ntmps23
  go_wp2_with fail
  refine (HR.out _).mono ?_
  rintro e w1 ⟨rfl, hb⟩
  have hB1 := beyond (single w _) hb
  clear hb
  go_wp2_with fail
  go_ret
  exact ⟨rfl, hB1⟩
theorem yprint_one (n : Int) (a : List UInt8) (w : World) (ht : Pow w) (HR : Hid (AskY n 1 true))
    (HA : Hid (∀ w, Pow w → Calls Tryz.prog 56 #[.int .i64 n, .int .i64 10] w fun e w' => e = .returned (.string ⟨a.toArray⟩) ∧ Below w.heap.size w w')) :
    Calls Tryz.prog 23 #[rv n 1] w fun e w' => e = .returned (.string ⟨a.toArray⟩) ∧ Below w.heap.size w w' := by
  go_enter Tryz.func23, Tryz.ntmps23
  go_wp2_with fail
  refine (HR.out _).mono ?_
  rintro e w1 ⟨rfl, hb⟩
  have s0 := kc ⟨w.heap.size, 0, none⟩ (.int .i64 n) hb (by first | assumption | simp [go_sem, *])
  have s1 := kc ⟨w.heap.size, 1, none⟩ (.int .i64 1) hb (by first | assumption | simp [go_sem, *])
  have hB1 := beyond (single w _) hb
  clear hb
  go_wp2_with fail
  refine (HA.out _ (pow_later ht hB1)).mono ?_
  rintro e w2 ⟨rfl, hb⟩
  have u0 := kc _ _ hb s0
  have u1 := kc _ _ hb s1
  have hB2 := beyond hB1 hb
  clear hb s0 s1
  go_wp2_with fail
  go_ret
  exact ⟨rfl, hB2⟩
theorem yprint_raw21 (n d : Int) (a b : List UInt8) (w : World) (hd : ¬ d = 1) (la : a.length ≤ 21) (lb : b.length ≤ 21) (ht : Pow w) (HR : Hid (AskY n d true))
    (HA : Hid (∀ w, Pow w → Calls Tryz.prog 56 #[.int .i64 n, .int .i64 10] w fun e w' => e = .returned (.string ⟨a.toArray⟩) ∧ Below w.heap.size w w'))
    (HB : Hid (∀ w, Pow w → Calls Tryz.prog 56 #[.int .i64 d, .int .i64 10] w fun e w' => e = .returned (.string ⟨b.toArray⟩) ∧ Below w.heap.size w w')) :
    Calls Tryz.prog 23 #[rv n d] w fun e w' => e = .returned (.string ⟨(a ++ [47] ++ b).toArray⟩) ∧ Below w.heap.size w w' := by
  go_enter Tryz.func23, Tryz.ntmps23
  go_wp2_with fail
  refine (HR.out _).mono ?_
  rintro e w1 ⟨rfl, hb⟩
  have s0 := kc ⟨w.heap.size, 0, none⟩ (.int .i64 n) hb (by first | assumption | simp [go_sem, *])
  have s1 := kc ⟨w.heap.size, 1, none⟩ (.int .i64 d) hb (by first | assumption | simp [go_sem, *])
  have hB1 := beyond (single w _) hb
  clear hb
  go_wp2_with fail
  refine (HA.out _ (pow_later ht hB1)).mono ?_
  rintro e w2 ⟨rfl, hb⟩
  have u0 := kc _ _ hb s0
  have u1 := kc _ _ hb s1
  have hB2 := beyond hB1 hb
  clear hb s0 s1
  go_wp2_with fail
  refine (HB.out _ (pow_later ht hB2)).mono ?_
  rintro e w3 ⟨rfl, hb⟩
  have hB3 := beyond hB2 hb
  clear hb
  go_wp2
  go_ret
  refine ⟨ret_str ?_, hB3⟩
  apply ByteArray.ext
  simp [ByteArray.data_append]
theorem yprintT (n d : Int) (w : World) (hn : I64 n) (hd : I64 d) (ht : Pow w) :
    Calls Tryz.prog 23 #[rv n d] w fun e w' => e = .returned (.string ⟨(printR n d).toArray⟩) ∧ Below w.heap.size w w' := by
  have k := askY n d hn hd
  cases r : rightR n d
  · rw [r] at k
    have e : printR n d = [] := by simp [printR, r]
    rw [e]
    exact yprint_wrong n d w k
  · rw [r] at k
    by_cases c : d = 1
    · subst c
      have e : printR n 1 = Lib.itoa n := by simp [printR, r]
      rw [e]
      exact yprint_one n _ w ht k (fun w h => format_any n w hn h)
    · have e : printR n d = Lib.itoa n ++ [47] ++ Lib.itoa d := by simp [printR, r, c]
      rw [e]
      exact yprint_raw21 n d _ _ w c (Lib.itoa_length_le n hn.1 hn.2) (Lib.itoa_length_le d hd.1 hd.2) ht k (fun w h => format_any n w hn h) (fun w h => format_any d w hd h)
end Go.Proofs.YteifpplemohdcaaGreatDoor

/-
  The document's Right and Print of valuations.
-/
namespace Go.Proofs.YteifpplemohdcaaGreatDoor
open Go.RowKit Go.Shelf
set_option linter.unusedVariables false
set_option maxRecDepth 100000
theorem rightL_split {L : Rats} {q : Nat} (hq : L.q = q) (h : okL L q = true) : rightL L = decide ((q : Int) ≤ 8) := by
  unfold rightL
  rw [hq, h, Bool.and_true]
  rw [decide_eq_decide]
  omega
theorem rightL_no {L : Rats} {q : Nat} (hq : L.q = q) (h : okL L q = false) : rightL L = false := by
  unfold rightL
  rw [hq, h, Bool.and_false]
set_option maxHeartbeats 2000000 in
theorem rright6_any (ad : Option Addr) (cap q : Nat) (L : Rats) (w : World) (hq : L.q = q) (q1 : q ≤ 9223372036854775807) (hV : RatV w ad L) (hI : RatI L) :
    Calls Tryz.prog 16 #[.slice ad q cap] w fun e w' => e = .returned (.bool (rightL L)) ∧ Below w.heap.size w w' := by
  have HV := hideR hV
  have HI := hideR hI
  have HQ := hideR hq
  clear hV hI hq
  go_enter Tryz.func16, Tryz.ntmps16
  go_wp2_with fail
  go_loopw [3] (fun s wr => ∃ (K : Nat), K ≤ q ∧ s = .int .i64 (K : Int) ∧ Hid (okL L K = true) ∧ Hid (Below w.heap.size w wr)) (fun s _ => q - (intOf s).toNat)
  case atStart => exact ⟨0, by omega, rfl, rfl, Below.refl _ _⟩
  case round =>
    obtain ⟨K, hK, rfl, O, B⟩ := hrel
    by_cases ck : K < q
    · obtain ⟨b, off, rfl, c0, c1⟩ := (HV.out.later B.out) K (by rw [HQ.out]; exact ck)
      have k0 : (K : Int) < (q : Int) := by omega
      have k1 : (0 : Int) ≤ (K : Int) := by omega
      have iK := HI.out K (by rw [HQ.out]; exact ck)
      have HR := hideR (askY (L.n K) (L.d K) iK.1 iK.2)
      have ON : Hid (okL L (K + 1) = okR (L.n K) (L.d K)) := by show _ = _; rw [okL, O.out]; simp
      clear iK
      generalize L.n K = x at *
      generalize L.d K = y at *
      cases o : rightR x y with
      | false =>
        rw [o] at HR
        have F : Hid (rightL L = false) := rightL_no HQ.out (okL_false q (show K + 1 ≤ q by omega) (by rw [ON.out]; simp [okR, o]))
        clear ON
        go_wp2_with fail
        refine (HR.out _).mono ?_
        rintro e w1 ⟨rfl, hb⟩
        have B1 := hideR (beyond B.out hb)
        clear hb B HR c0 c1
        go_wp2_with fail
        go_ret
        exact ⟨by rw [F.out]; rfl, B1.out⟩
      | true =>
        rw [o] at HR
        by_cases x0 : x < 0
        · have F : Hid (rightL L = false) := rightL_no HQ.out (okL_false q (show K + 1 ≤ q by omega) (by rw [ON.out]; simp [okR, o, x0]))
          clear ON
          go_wp2_with fail
          refine (HR.out _).mono ?_
          rintro e w1 ⟨rfl, hb⟩
          have B1 := hideR (beyond B.out hb)
          have c0 := kc _ _ hb c0
          clear hb B HR c1
          go_wp2_with fail
          go_ret
          exact ⟨by rw [F.out]; rfl, B1.out⟩
        · have ON2 : Hid (okL L (K + 1) = true) := by show _ = _; rw [ON.out]; simp [okR, o]; omega
          clear ON
          go_wp2_with fail
          refine (HR.out _).mono ?_
          rintro e w1 ⟨rfl, hb⟩
          have B1 := hideR (beyond B.out hb)
          have c0 := kc _ _ hb c0
          clear hb B HR c1
          go_wp2_with fail
          go_roundw
          case rel => exact ⟨K + 1, by omega, by go_num, ON2, B1⟩
          case measure => simp [intOf]; omega
    · have eK : K = q := by omega
      have F : Hid (rightL L = decide ((q : Int) ≤ 8)) := rightL_split HQ.out (by rw [← eK]; exact O.out)
      have k0 : ¬ (K : Int) < (q : Int) := by omega
      clear eK O
      go_wp2_with fail
      go_ret
      exact ⟨by rw [F.out]; rfl, B.out⟩
/-- The text of the first fractions. -/
def accP (L : Rats) (K : Nat) : List UInt8 := Lib.join (txtL L K) [32]
theorem join_snoc (xs : List (List UInt8)) (x : List UInt8) (h : xs ≠ []) : Lib.join (xs ++ [x]) [32] = Lib.join xs [32] ++ [32] ++ x := by
  cases xs with
  | nil => exact absurd rfl h
  | cons y r =>
    rw [List.cons_append, Lib.join_cons, Lib.join_cons]
    simp [Lib.joinTail]
theorem accP_one (L : Rats) : accP L 1 = printR (L.n 0) (L.d 0) := by simp [accP, txtL, Lib.join_one]
theorem accP_next (L : Rats) (K : Nat) (h : 0 < K) : accP L (K + 1) = accP L K ++ [32] ++ printR (L.n K) (L.d K) := by
  unfold accP
  rw [txtL_next]
  exact join_snoc _ _ (fun e => by have := txtL_len L K; rw [e] at this; simp at this; omega)
theorem accP_len {L : Rats} (K : Nat) (h : ∀ k, k < K → I64 (L.n k) ∧ I64 (L.d k)) : (accP L K).length ≤ 44 * K := Nat.le_trans (join_len _) (txt_sum K h)
theorem yprint_no (ad : Option Addr) (q cap : Nat) (w : World) (HR : Hid (Calls Tryz.prog 16 #[.slice ad q cap] w fun e w' => e = .returned (.bool false) ∧ Below w.heap.size w w')) :
    Calls Tryz.prog 9 #[.slice ad q cap] w fun e w' => e = .returned (.string ⟨#[]⟩) ∧ Below w.heap.size w w' := by
  go_enter Tryz.func9, Tryz.ntmps9
  go_wp2_with fail
  refine HR.out.mono ?_
  rintro e w1 ⟨rfl, hb⟩
  have B1 := hideR hb
  clear hb HR
  go_wp2_with fail
  go_ret
  exact ⟨rfl, B1.out⟩
set_option maxHeartbeats 2000000 in
theorem yprint_yes (ad : Option Addr) (q cap : Nat) (L : Rats) (w : World) (hq : L.q = q) (q8 : q ≤ 8) (hV : RatV w ad L) (hI : RatI L) (ht : Pow w) (HR : Hid (Calls Tryz.prog 16 #[.slice ad q cap] w fun e w' => e = .returned (.bool true) ∧ Below w.heap.size w w')) :
    Calls Tryz.prog 9 #[.slice ad q cap] w fun e w' => e = .returned (.string ⟨(accP L q).toArray⟩) ∧ Below w.heap.size w w' := by
  have HV := hideR hV
  have HI := hideR hI
  have HQ := hideR hq
  have HT := hideR ht
  have n1 : (q : Int) ≤ 8 := by omega
  clear hV hI hq ht
  go_enter Tryz.func9, Tryz.ntmps9
  go_wp2_with fail
  refine HR.out.mono ?_
  rintro e w0 ⟨rfl, hb0⟩
  have B0 := hideR hb0
  clear hb0 HR
  go_wp2_with fail
  go_loopw [3, 4] (fun l s wr => ∃ (K : Nat) (S : List UInt8), K ≤ q ∧ l = .string ⟨S.toArray⟩ ∧ s = .int .i64 (K : Int) ∧ Hid (S = accP L K) ∧ Hid (Below w.heap.size w wr)) (fun _ s _ => q - (intOf s).toNat)
  case atStart => exact ⟨0, [], Nat.zero_le _, rfl, rfl, rfl, B0.out⟩
  case round =>
    obtain ⟨K, S, hK, rfl, rfl, E, B⟩ := hrel
    by_cases ck : K < q
    · obtain ⟨b, off, rfl, e0, e1⟩ := HV.out K (by rw [HQ.out]; exact ck)
      have e0 := kc _ _ B.out e0
      have e1 := kc _ _ B.out e1
      have k0 : (K : Int) < (q : Int) := by omega
      have iK := HI.out K (by rw [HQ.out]; exact ck)
      have HL := hideR (fun w' (h : Below w.heap.size w w') => yprintT (L.n K) (L.d K) w' iK.1 iK.2 (pow_later HT.out h))
      have l1 := prt_len iK.1 iK.2
      have l2 : S.length ≤ 352 := by rw [E.out]; have := accP_len (L := L) K (fun k hk => HI.out k (by rw [HQ.out]; omega)); omega
      have NX := hideR (accP_next L K)
      have NO := hideR (accP_one L)
      by_cases z : K = 0
      · subst z
        have ES : S = [] := E.out
        subst ES
        generalize printR (L.n 0) (L.d 0) = p at *
        have cat : (⟨([] : List UInt8).toArray⟩ : ByteArray) ++ (⟨p.toArray⟩ : ByteArray) = ⟨p.toArray⟩ := str_cat [] p
        have E2 : Hid (p = accP L 1) := NO.out.symm
        clear iK NX NO E l2
        rw [Nat.zero_mul, Nat.add_zero] at e0 e1
        generalize L.n 0 = x at HL e0
        generalize L.d 0 = y at HL e1
        have HL := hideR (HL.out _ B.out)
        go_wp2_with fail
        refine HL.out.mono ?_
        rintro e w1 ⟨rfl, hb⟩
        have B1 := hideR (beyond B.out hb)
        clear hb HL e0 e1 B
        go_wp2_with fail
        go_roundw
        case rel => exact ⟨1, p, by omega, by rw [← cat], by go_num, E2, B1⟩
        case measure => simp [intOf]; omega
      · have kz : (0 : Int) < (K : Int) := by omega
        have nx := NX.out (by omega)
        generalize printR (L.n K) (L.d K) = p at *
        have c1 : (⟨S.toArray⟩ : ByteArray) ++ (⟨#[32]⟩ : ByteArray) = ⟨(S ++ [32]).toArray⟩ := str_cat S [32]
        have c2 : (⟨(S ++ [32]).toArray⟩ : ByteArray) ++ (⟨p.toArray⟩ : ByteArray) = ⟨(S ++ [32] ++ p).toArray⟩ := str_cat _ p
        have l3 : (S ++ [32]).length ≤ 353 := by simp; omega
        have E2 : Hid (S ++ [32] ++ p = accP L (K + 1)) := by show _ = _; rw [nx, E.out]
        generalize S ++ [32] ++ p = S2 at *
        generalize S ++ [32] = S1 at *
        clear iK NX NO E nx z
        generalize L.n K = x at HL e0
        generalize L.d K = y at HL e1
        have HL := hideR (HL.out _ B.out)
        go_wp2_with fail
        refine HL.out.mono ?_
        rintro e w1 ⟨rfl, hb⟩
        have B1 := hideR (beyond B.out hb)
        clear hb HL e0 e1 B
        go_wp2_with fail
        go_roundw
        case rel => exact ⟨K + 1, S2, by omega, rfl, by go_num, E2, B1⟩
        case measure => simp [intOf]; omega
    · have eK : K = q := by omega
      have k0 : ¬ (K : Int) < (q : Int) := by omega
      have E2 : Hid (S = accP L q) := by show _ = _; rw [← eK]; exact E.out
      clear eK E
      go_wp2_with fail
      go_ret
      exact ⟨by rw [← E2.out]; rfl, B.out⟩
theorem yprint_pt (ad : Option Addr) (q cap : Nat) (L : Rats) (w : World) (hq : L.q = q) (q1 : q ≤ 9223372036854775807) (hV : RatV w ad L) (hI : RatI L) (ht : Pow w) :
    Calls Tryz.prog 9 #[.slice ad q cap] w fun e w' => e = .returned (.string ⟨(prtL L).toArray⟩) ∧ Below w.heap.size w w' := by
  have HR := rright6_any ad cap q L w hq q1 hV hI
  cases r : rightL L with
  | false =>
    rw [r] at HR
    have e : prtL L = [] := by unfold prtL; rw [r]; rfl
    rw [e]
    exact yprint_no ad q cap w HR
  | true =>
    rw [r] at HR
    have e : prtL L = accP L q := by unfold prtL accP; rw [if_pos r, hq]
    rw [e]
    exact yprint_yes ad q cap L w hq (by have := (right_at r).1; omega) hV hI ht HR
end Go.Proofs.YteifpplemohdcaaGreatDoor
