/-
  point.Delays: what a span under way tells.
-/
import Derived.Test.YteifpplemohdcaaGreatDoorQ29
namespace Go.Proofs.YteifpplemohdcaaGreatDoor
open Go.RowKit Go.Shelf
set_option linter.unusedVariables false
set_option maxRecDepth 100000
set_option maxHeartbeats 1000000 in
theorem delay_raw (e : End) (t : Int × Int × Int) (w : World) (HO : Hid (∀ w, Calls Tryz.prog 46 #[.int .i64 e.n] w fun r w' => r = .returned (rv e.n 1) ∧ Below w.heap.size w w')) (HS : Hid (∀ w, Calls Tryz.prog 103 #[rv e.n 1, rv e.cn e.cd] w fun r w' => r = .returned (trip t) ∧ Below w.heap.size w w')) :
    Calls Tryz.prog 84 #[endV e] w fun r w' => r = .returned (trip t) ∧ Below w.heap.size w w' := by
  obtain ⟨t0, t1, t2⟩ := t
  have B0 := hideR (two w (.cells #[.int .i64 e.n, .int .i64 e.cn, .int .i64 e.cd, .bool e.i] 83) (.cells #[.int .i64 0, .int .i64 0] 33))
  go_enter Tryz.func84, Tryz.ntmps84
  go_upto_region 1 with (fail)
  have c0 : ((w.alloc (.cells #[.int .i64 e.n, .int .i64 e.cn, .int .i64 e.cd, .bool e.i] 83)).alloc (.cells #[.int .i64 0, .int .i64 0] 33)).cell? ⟨w.heap.size, 0, none⟩ = some (.int .i64 e.n) := by simp [go_sem]
  have c1 : ((w.alloc (.cells #[.int .i64 e.n, .int .i64 e.cn, .int .i64 e.cd, .bool e.i] 83)).alloc (.cells #[.int .i64 0, .int .i64 0] 33)).cell? ⟨w.heap.size, 1, none⟩ = some (.int .i64 e.cn) := by simp [go_sem]
  have c2 : ((w.alloc (.cells #[.int .i64 e.n, .int .i64 e.cn, .int .i64 e.cd, .bool e.i] 83)).alloc (.cells #[.int .i64 0, .int .i64 0] 33)).cell? ⟨w.heap.size, 2, none⟩ = some (.int .i64 e.cd) := by simp [go_sem]
  have c3 : ((w.alloc (.cells #[.int .i64 e.n, .int .i64 e.cn, .int .i64 e.cd, .bool e.i] 83)).alloc (.cells #[.int .i64 0, .int .i64 0] 33)).cell? ⟨w.heap.size + 1, 0, none⟩ = some (.int .i64 0) := by simp [go_sem]
  have c4 : ((w.alloc (.cells #[.int .i64 e.n, .int .i64 e.cn, .int .i64 e.cd, .bool e.i] 83)).alloc (.cells #[.int .i64 0, .int .i64 0] 33)).cell? ⟨w.heap.size + 1, 1, none⟩ = some (.int .i64 0) := by simp [go_sem]
  have g0 : ((w.alloc (.cells #[.int .i64 e.n, .int .i64 e.cn, .int .i64 e.cd, .bool e.i] 83)).alloc (.cells #[.int .i64 0, .int .i64 0] 33)).frozen? ⟨w.heap.size + 1, 0, none⟩ = false := by simp [go_sem]
  have g1 : ((w.alloc (.cells #[.int .i64 e.n, .int .i64 e.cn, .int .i64 e.cd, .bool e.i] 83)).alloc (.cells #[.int .i64 0, .int .i64 0] 33)).frozen? ⟨w.heap.size + 1, 1, none⟩ = false := by simp [go_sem]
  generalize (w.alloc (.cells #[.int .i64 e.n, .int .i64 e.cn, .int .i64 e.cd, .bool e.i] 83)).alloc (.cells #[.int .i64 0, .int .i64 0] 33) = W at *
  have B1 := Below.refl W.heap.size W
  go_region_held3 (fun w' => w'.cell? ⟨w.heap.size, 0, none⟩ = some (.int .i64 e.n) ∧ w'.cell? ⟨w.heap.size, 1, none⟩ = some (.int .i64 e.cn) ∧ w'.cell? ⟨w.heap.size, 2, none⟩ = some (.int .i64 e.cd))
    (first | (refine ⟨?_, ?_, ?_⟩ <;> (first | with_reducible assumption | assumption)) | go_keep)
    (first
      | (go_at_call 46; refine (HO.out _).mono ?_; rintro r w' ⟨rfl, hb⟩; have s0 := kc ⟨w.heap.size, 0, none⟩ (.int .i64 e.n) hb (by first | assumption | simp [go_sem, *]); have s1 := kc ⟨w.heap.size, 1, none⟩ (.int .i64 e.cn) hb (by first | assumption | simp [go_sem, *]); have s2 := kc ⟨w.heap.size, 2, none⟩ (.int .i64 e.cd) hb (by first | assumption | simp [go_sem, *]); have r0 := kc ⟨w.heap.size + 1, 0, none⟩ (.int .i64 0) hb (by first | assumption | simp [go_sem, *]); have r1 := kc ⟨w.heap.size + 1, 1, none⟩ (.int .i64 0) hb (by first | assumption | simp [go_sem, *]); have f0 := kf ⟨w.heap.size + 1, 0, none⟩ (.int .i64 0) hb (by first | assumption | simp [go_sem, *]) (by first | assumption | simp [go_sem, *]); have f1 := kf ⟨w.heap.size + 1, 1, none⟩ (.int .i64 0) hb (by first | assumption | simp [go_sem, *]) (by first | assumption | simp [go_sem, *]); have s4 := beyond (w := W) (by first | assumption | (apply Below.drew; assumption)) hb)
      | (go_at_call 103; refine (HS.out _).mono ?_; rintro r w' ⟨rfl, hb⟩; have s0 := kc ⟨w.heap.size, 0, none⟩ (.int .i64 e.n) hb (by first | assumption | simp [go_sem, *]); have s1 := kc ⟨w.heap.size, 1, none⟩ (.int .i64 e.cn) hb (by first | assumption | simp [go_sem, *]); have s2 := kc ⟨w.heap.size, 2, none⟩ (.int .i64 e.cd) hb (by first | assumption | simp [go_sem, *]); have r0 := kc ⟨w.heap.size + 1, 0, none⟩ (.int .i64 0) hb (by first | assumption | simp [go_sem, *]); have r1 := kc ⟨w.heap.size + 1, 1, none⟩ (.int .i64 0) hb (by first | assumption | simp [go_sem, *]); have f0 := kf ⟨w.heap.size + 1, 0, none⟩ (.int .i64 0) hb (by first | assumption | simp [go_sem, *]) (by first | assumption | simp [go_sem, *]); have f1 := kf ⟨w.heap.size + 1, 1, none⟩ (.int .i64 0) hb (by first | assumption | simp [go_sem, *]) (by first | assumption | simp [go_sem, *]); have s4 := beyond (w := W) (by first | assumption | (apply Below.drew; assumption)) hb))
  all_goals
    go_wp2_with fail
    refine bodyPost_ret (v := trip (t0, t1, t2)) (by simp [results, Tryz.results84, go_sem, *]) rfl ⟨rfl, ?_⟩
    exact set2 (beyond B0.out (by with_reducible assumption)) (Nat.le_succ _) _ _
def delT (e : End) : Int × Int × Int := subT e.n 1 e.cn e.cd
theorem delayE_any (e : End) (w : World) (he : OkE e) : Calls Tryz.prog 84 #[endV e] w fun r w' => r = .returned (trip (delT e)) ∧ Below w.heap.size w w' := by
  have hn : I64 e.n := ⟨by have := he.l; omega, by have := he.u; omega⟩
  exact delay_raw e _ w (fun w => ratOf_any e.n w) (fun w => rsub_any e.n 1 e.cn e.cd w hn ⟨by decide, by decide⟩ he.a he.b)
theorem none_fv (B : Nat) (s : DSt) (w : World) (hD : DAt w B s) (hfv : s.fv = true) : Calls Tryz.prog 52 #[.pointer (some ⟨B, 0, none⟩)] w fun r w' => r = .returned (.bool false) ∧ Below w.heap.size w w' := by
  obtain ⟨-, -, -, -, -, -, -, -, p8⟩ := hD.cells
  rw [hfv] at p8
  clear hD hfv
  go_enter Tryz.func52, Tryz.ntmps52
  go_wp2_with fail
  go_ret
  exact ⟨rfl, Below.refl _ _⟩
set_option maxHeartbeats 1000000 in
theorem none_raw (B : Nat) (s : DSt) (G : Int) (t : Bool) (w : World) (hD : DAt w B s) (hfv : s.fv = false) (HC : Hid (AskE s.lo s.hi G))
    (hG : (0 < G ∧ t = true) ∨ (¬ 0 < G ∧ (G == 0) = false ∧ t = false) ∨ (¬ 0 < G ∧ (G == 0) = true ∧ t = !(s.lo.i && s.hi.i))) :
    Calls Tryz.prog 52 #[.pointer (some ⟨B, 0, none⟩)] w fun r w' => r = .returned (.bool t) ∧ Below w.heap.size w w' := by
  obtain ⟨p0, p1, p2, p3, p4, p5, p6, p7, p8⟩ := hD.cells
  rw [hfv] at p8
  have HGG := hideR hG
  clear hD hfv hG
  go_enter Tryz.func52, Tryz.ntmps52
  go_upto_region 3 with (fail)
  have B1 := Below.refl w.heap.size w
  go_region_held3 (fun w' => w'.cell? ⟨B, 0, none⟩ = some (.int .i64 s.lo.n) ∧ w'.cell? ⟨B, 1, none⟩ = some (.int .i64 s.lo.cn) ∧ w'.cell? ⟨B, 2, none⟩ = some (.int .i64 s.lo.cd) ∧ w'.cell? ⟨B, 3, none⟩ = some (.bool s.lo.i) ∧ w'.cell? ⟨B, 4, none⟩ = some (.int .i64 s.hi.n) ∧ w'.cell? ⟨B, 5, none⟩ = some (.int .i64 s.hi.cn) ∧ w'.cell? ⟨B, 6, none⟩ = some (.int .i64 s.hi.cd) ∧ w'.cell? ⟨B, 7, none⟩ = some (.bool s.hi.i))
    (first | (refine ⟨?_, ?_, ?_, ?_, ?_, ?_, ?_, ?_⟩ <;> (first | with_reducible assumption | assumption)) | go_keep)
    (first | (go_at_call 82; refine (HC.out _).mono ?_; rintro r w' ⟨rfl, hb⟩; have s0 := kc ⟨B, 0, none⟩ (.int .i64 s.lo.n) hb (by first | assumption | simp [go_sem, *]); have s1 := kc ⟨B, 1, none⟩ (.int .i64 s.lo.cn) hb (by first | assumption | simp [go_sem, *]); have s2 := kc ⟨B, 2, none⟩ (.int .i64 s.lo.cd) hb (by first | assumption | simp [go_sem, *]); have s3 := kc ⟨B, 3, none⟩ (.bool s.lo.i) hb (by first | assumption | simp [go_sem, *]); have s4 := kc ⟨B, 4, none⟩ (.int .i64 s.hi.n) hb (by first | assumption | simp [go_sem, *]); have s5 := kc ⟨B, 5, none⟩ (.int .i64 s.hi.cn) hb (by first | assumption | simp [go_sem, *]); have s6 := kc ⟨B, 6, none⟩ (.int .i64 s.hi.cd) hb (by first | assumption | simp [go_sem, *]); have s7 := kc ⟨B, 7, none⟩ (.bool s.hi.i) hb (by first | assumption | simp [go_sem, *]); have u4 := beyond (w := w) (by first | assumption | (apply Below.drew; assumption)) hb))
  all_goals
    have B4 := hideR u4
    clear u4 hb B1 p0 p1 p2 p3 p4 p5 p6 p7 p8 HC s0 s1 s2 s4 s5 s6
    rcases HGG.out with ⟨h1, h2⟩ | ⟨h1, h2, h3⟩ | ⟨h1, h2, h3⟩
    · have S := hideR h2
      clear h2 HGG
      go_wp2_with fail
      go_ret
      exact ⟨by rw [S.out]; rfl, B4.out⟩
    · have S := hideR h3
      have H1 := hideR h1
      clear h3 HGG
      go_wp2_with fail
      go_ret
      exact ⟨by rw [S.out]; first | rfl | (show Ending.returned (.bool (decide (0 < G))) = _; rw [decide_eq_false (by have := H1.out; omega)]; try rfl), B4.out⟩
    · have S := hideR h3
      have H1 := hideR h1
      clear h3 HGG
      cases hl : s.lo.i
      · rw [hl] at s3 S
        go_wp2_with fail
        go_ret
        exact ⟨by rw [S.out]; first | rfl | (show Ending.returned (.bool (decide (0 < G))) = _; rw [decide_eq_false (by have := H1.out; omega)]; try rfl), B4.out⟩
      · rw [hl] at s3 S
        cases hh : s.hi.i
        · rw [hh] at s7 S
          go_wp2_with fail
          go_ret
          exact ⟨by rw [S.out]; first | rfl | (show Ending.returned (.bool (decide (0 < G))) = _; rw [decide_eq_false (by have := H1.out; omega)]; try rfl), B4.out⟩
        · rw [hh] at s7 S
          go_wp2_with fail
          go_ret
          exact ⟨by rw [S.out]; first | rfl | (show Ending.returned (.bool (decide (0 < G))) = _; rw [decide_eq_false (by have := H1.out; omega)]; try rfl), B4.out⟩
def noneB (s : DSt) : Bool := !s.fv && (decide (0 < cmpE s.lo s.hi) || (decide (cmpE s.lo s.hi = 0) && !(s.lo.i && s.hi.i)))
theorem noneD_any (B : Nat) (s : DSt) (w : World) (hD : DAt w B s) (hl : OkE s.lo) (hh : s.fv = false → OkE s.hi) : Calls Tryz.prog 52 #[.pointer (some ⟨B, 0, none⟩)] w fun r w' => r = .returned (.bool (noneB s)) ∧ Below w.heap.size w w' := by
  cases fv : s.fv
  · refine none_raw B s (cmpE s.lo s.hi) _ w hD fv (fun w => cmpE_any s.lo s.hi w hl (hh fv)) ?_
    unfold noneB
    rw [fv]
    generalize cmpE s.lo s.hi = G
    by_cases h1 : 0 < G
    · exact .inl ⟨h1, by simp [h1]⟩
    · by_cases h2 : G = 0
      · exact .inr (.inr ⟨h1, by simp [h2], by simp [h2]⟩)
      · exact .inr (.inl ⟨h1, by simp [h2], by simp [h1, h2]⟩)
  · rw [show noneB s = false by simp [noneB, fv]]
    exact none_fv B s w hD fv
abbrev spanV (ln ld hn hd : Int) (li hi fv : Bool) : Value := .agg #[.int .i64 ln, .int .i64 ld, .int .i64 hn, .int .i64 hd, .bool li, .bool hi, .bool fv]
/-- What a span under way tells. -/
def spanS (s : DSt) : Value × Bool :=
  if (delT s.lo).2.2 = 0 then
    (if s.fv then (spanV (delT s.lo).1 (delT s.lo).2.1 0 0 s.lo.i false true, true)
     else if (delT s.hi).2.2 = 0 then (spanV (delT s.lo).1 (delT s.lo).2.1 (delT s.hi).1 (delT s.hi).2.1 s.lo.i s.hi.i false, true)
     else (spanV 0 0 0 0 false false false, false))
  else (spanV 0 0 0 0 false false false, false)
theorem seven_below {w W : World} (h : Below w.heap.size w W) (a b c d e f g : Value) : Below w.heap.size w (((((((W.setCell ⟨w.heap.size, 0, none⟩ a).setCell ⟨w.heap.size, 1, none⟩ b).setCell ⟨w.heap.size, 2, none⟩ c).setCell ⟨w.heap.size, 3, none⟩ d).setCell ⟨w.heap.size, 4, none⟩ e).setCell ⟨w.heap.size, 5, none⟩ f).setCell ⟨w.heap.size, 6, none⟩ g) :=
  ((((((h.setCell (p := ⟨w.heap.size, 0, none⟩) (Nat.le_refl _) _).setCell (p := ⟨w.heap.size, 1, none⟩) (Nat.le_refl _) _).setCell (p := ⟨w.heap.size, 2, none⟩) (Nat.le_refl _) _).setCell (p := ⟨w.heap.size, 3, none⟩) (Nat.le_refl _) _).setCell (p := ⟨w.heap.size, 4, none⟩) (Nat.le_refl _) _).setCell (p := ⟨w.heap.size, 5, none⟩) (Nat.le_refl _) _).setCell (p := ⟨w.heap.size, 6, none⟩) (Nat.le_refl _) _
theorem cell_drew (X : World) (a : Addr) : X.drew.cell? a = X.cell? a := rfl
theorem seven_cell {W : World} {x b k : Nat} {v : Value} (h : W.cell? ⟨b, k, none⟩ = some v) (hne : b ≠ x) (a0 a1 a2 a3 a4 a5 a6 : Value) : (((((((W.setCell ⟨x, 0, none⟩ a0).setCell ⟨x, 1, none⟩ a1).setCell ⟨x, 2, none⟩ a2).setCell ⟨x, 3, none⟩ a3).setCell ⟨x, 4, none⟩ a4).setCell ⟨x, 5, none⟩ a5).setCell ⟨x, 6, none⟩ a6).drew.cell? ⟨b, k, none⟩ = some v := by
  rw [cell_drew]
  have ne : ∀ j : Nat, (⟨b, k, none⟩ : Addr) ≠ ⟨x, j, none⟩ := fun j e => hne (by injection e)
  rw [World.cell?_setCell_other _ _ _ _ (ne 6).symm, World.cell?_setCell_other _ _ _ _ (ne 5).symm, World.cell?_setCell_other _ _ _ _ (ne 4).symm, World.cell?_setCell_other _ _ _ _ (ne 3).symm, World.cell?_setCell_other _ _ _ _ (ne 2).symm, World.cell?_setCell_other _ _ _ _ (ne 1).symm, World.cell?_setCell_other _ _ _ _ (ne 0).symm]
  exact h
set_option maxHeartbeats 2000000 in
theorem span_any (B : Nat) (s : DSt) (w : World) (hD : DAt w B s) (hl : OkE s.lo) (hh : s.fv = false → OkE s.hi) : Calls Tryz.prog 53 #[.pointer (some ⟨B, 0, none⟩)] w fun r w' => r = .returned (.tuple #[(spanS s).1, .bool (spanS s).2]) ∧ Below w.heap.size w w' := by
  have HL := hideR (fun w => delayE_any s.lo w hl)
  have B0 := single w (.cells #[.int .i64 0, .int .i64 0, .int .i64 0, .int .i64 0, .bool false, .bool false, .bool false] 46)
  obtain ⟨p0, p1, p2, p3, p4, p5, p6, p7, p8⟩ := (hD.past B0).cells
  have hlt : B < w.heap.size := World.block_lt_of_cell? _ _ hD.cells.1
  obtain ⟨o, ho⟩ : ∃ o, spanS s = o := ⟨_, rfl⟩
  rw [ho]
  have HO := hideR ho
  unfold spanS at HO
  generalize delT s.lo = t at *
  obtain ⟨t0, t1, t2⟩ := t
  clear hD hl ho
  have r0 : (w.alloc (.cells #[.int .i64 0, .int .i64 0, .int .i64 0, .int .i64 0, .bool false, .bool false, .bool false] 46)).cell? ⟨w.heap.size, 0, none⟩ = some (.int .i64 0) := by simp [go_sem]
  have r1 : (w.alloc (.cells #[.int .i64 0, .int .i64 0, .int .i64 0, .int .i64 0, .bool false, .bool false, .bool false] 46)).cell? ⟨w.heap.size, 1, none⟩ = some (.int .i64 0) := by simp [go_sem]
  have r2 : (w.alloc (.cells #[.int .i64 0, .int .i64 0, .int .i64 0, .int .i64 0, .bool false, .bool false, .bool false] 46)).cell? ⟨w.heap.size, 2, none⟩ = some (.int .i64 0) := by simp [go_sem]
  have r3 : (w.alloc (.cells #[.int .i64 0, .int .i64 0, .int .i64 0, .int .i64 0, .bool false, .bool false, .bool false] 46)).cell? ⟨w.heap.size, 3, none⟩ = some (.int .i64 0) := by simp [go_sem]
  have r4 : (w.alloc (.cells #[.int .i64 0, .int .i64 0, .int .i64 0, .int .i64 0, .bool false, .bool false, .bool false] 46)).cell? ⟨w.heap.size, 4, none⟩ = some (.bool false) := by simp [go_sem]
  have r5 : (w.alloc (.cells #[.int .i64 0, .int .i64 0, .int .i64 0, .int .i64 0, .bool false, .bool false, .bool false] 46)).cell? ⟨w.heap.size, 5, none⟩ = some (.bool false) := by simp [go_sem]
  have r6 : (w.alloc (.cells #[.int .i64 0, .int .i64 0, .int .i64 0, .int .i64 0, .bool false, .bool false, .bool false] 46)).cell? ⟨w.heap.size, 6, none⟩ = some (.bool false) := by simp [go_sem]
  have f0 : (w.alloc (.cells #[.int .i64 0, .int .i64 0, .int .i64 0, .int .i64 0, .bool false, .bool false, .bool false] 46)).frozen? ⟨w.heap.size, 0, none⟩ = false := by simp [go_sem]
  have f1 : (w.alloc (.cells #[.int .i64 0, .int .i64 0, .int .i64 0, .int .i64 0, .bool false, .bool false, .bool false] 46)).frozen? ⟨w.heap.size, 1, none⟩ = false := by simp [go_sem]
  have f2 : (w.alloc (.cells #[.int .i64 0, .int .i64 0, .int .i64 0, .int .i64 0, .bool false, .bool false, .bool false] 46)).frozen? ⟨w.heap.size, 2, none⟩ = false := by simp [go_sem]
  have f3 : (w.alloc (.cells #[.int .i64 0, .int .i64 0, .int .i64 0, .int .i64 0, .bool false, .bool false, .bool false] 46)).frozen? ⟨w.heap.size, 3, none⟩ = false := by simp [go_sem]
  have f4 : (w.alloc (.cells #[.int .i64 0, .int .i64 0, .int .i64 0, .int .i64 0, .bool false, .bool false, .bool false] 46)).frozen? ⟨w.heap.size, 4, none⟩ = false := by simp [go_sem]
  have f5 : (w.alloc (.cells #[.int .i64 0, .int .i64 0, .int .i64 0, .int .i64 0, .bool false, .bool false, .bool false] 46)).frozen? ⟨w.heap.size, 5, none⟩ = false := by simp [go_sem]
  have f6 : (w.alloc (.cells #[.int .i64 0, .int .i64 0, .int .i64 0, .int .i64 0, .bool false, .bool false, .bool false] 46)).frozen? ⟨w.heap.size, 6, none⟩ = false := by simp [go_sem]
  go_enter Tryz.func53, Tryz.ntmps53
  go_upto_region 1 with (fail)
  generalize w.alloc (.cells #[.int .i64 0, .int .i64 0, .int .i64 0, .int .i64 0, .bool false, .bool false, .bool false] 46) = W at *
  go_wp2_with fail
  refine (HL.out _).mono ?_
  rintro r w1 ⟨rfl, hb⟩
  replace f0 := kf _ _ hb r0 f0
  replace f1 := kf _ _ hb r1 f1
  replace f2 := kf _ _ hb r2 f2
  replace f3 := kf _ _ hb r3 f3
  replace f4 := kf _ _ hb r4 f4
  replace f5 := kf _ _ hb r5 f5
  replace f6 := kf _ _ hb r6 f6
  replace r0 := kc _ _ hb r0
  replace r1 := kc _ _ hb r1
  replace r2 := kc _ _ hb r2
  replace r3 := kc _ _ hb r3
  replace r4 := kc _ _ hb r4
  replace r5 := kc _ _ hb r5
  replace r6 := kc _ _ hb r6
  replace p0 := kc _ _ hb p0
  replace p1 := kc _ _ hb p1
  replace p2 := kc _ _ hb p2
  replace p3 := kc _ _ hb p3
  replace p4 := kc _ _ hb p4
  replace p5 := kc _ _ hb p5
  replace p6 := kc _ _ hb p6
  replace p7 := kc _ _ hb p7
  replace p8 := kc _ _ hb p8
  have B1 := beyond B0 hb
  have hlt1 : w.heap.size < w1.heap.size := World.block_lt_of_cell? _ _ r0
  clear hb HL B0
  have bz := single w1 (.cells #[.int .i64 t0, .int .i64 t1] 33)
  replace f0 := kf _ _ bz r0 f0
  replace f1 := kf _ _ bz r1 f1
  replace f2 := kf _ _ bz r2 f2
  replace f3 := kf _ _ bz r3 f3
  replace f4 := kf _ _ bz r4 f4
  replace f5 := kf _ _ bz r5 f5
  replace f6 := kf _ _ bz r6 f6
  replace r0 := kc _ _ bz r0
  replace r1 := kc _ _ bz r1
  replace r2 := kc _ _ bz r2
  replace r3 := kc _ _ bz r3
  replace r4 := kc _ _ bz r4
  replace r5 := kc _ _ bz r5
  replace r6 := kc _ _ bz r6
  replace p0 := kc _ _ bz p0
  replace p1 := kc _ _ bz p1
  replace p2 := kc _ _ bz p2
  replace p3 := kc _ _ bz p3
  replace p4 := kc _ _ bz p4
  replace p5 := kc _ _ bz p5
  replace p6 := kc _ _ bz p6
  replace p7 := kc _ _ bz p7
  replace p8 := kc _ _ bz p8
  have q0 : (w1.alloc (.cells #[.int .i64 t0, .int .i64 t1] 33)).cell? ⟨w1.heap.size, 0, none⟩ = some (.int .i64 t0) := by simp [go_sem]
  have q1 : (w1.alloc (.cells #[.int .i64 t0, .int .i64 t1] 33)).cell? ⟨w1.heap.size, 1, none⟩ = some (.int .i64 t1) := by simp [go_sem]
  go_upto_region 2 with (fail)
  have B2 := hideR (beyond B1 bz)
  clear bz B1
  generalize w1.alloc (.cells #[.int .i64 t0, .int .i64 t1] 33) = W2 at *
  by_cases c1 : t2 = 0
  · subst c1
    cases fv : s.fv with
    | true =>
      rw [fv] at p8
      have eO : Hid (o = (spanV t0 t1 0 0 s.lo.i false true, true)) := by show _ = _; rw [← HO.out]; simp [fv]
      clear HO hh
      have n0 := seven_cell q0 (show w1.heap.size ≠ w.heap.size by omega) (.int .i64 t0) (.int .i64 t1) (.int .i64 0) (.int .i64 0) (.bool s.lo.i) (.bool false) (.bool true)
      have n1 := seven_cell q1 (show w1.heap.size ≠ w.heap.size by omega) (.int .i64 t0) (.int .i64 t1) (.int .i64 0) (.int .i64 0) (.bool s.lo.i) (.bool false) (.bool true)
      have n2 := seven_cell p3 (show B ≠ w.heap.size by omega) (.int .i64 t0) (.int .i64 t1) (.int .i64 0) (.int .i64 0) (.bool s.lo.i) (.bool false) (.bool true)
      have m0 : W2.drew.cell? ⟨w1.heap.size, 0, none⟩ = some (.int .i64 t0) := q0
      have m1 : W2.drew.cell? ⟨w1.heap.size, 1, none⟩ = some (.int .i64 t1) := q1
      have m2 : W2.drew.cell? ⟨B, 3, none⟩ = some (.bool s.lo.i) := p3
      go_upto_region 5 with (fail)
      go_region_held3 (fun w' => w'.cell? ⟨w1.heap.size, 0, none⟩ = some (.int .i64 t0) ∧ w'.cell? ⟨w1.heap.size, 1, none⟩ = some (.int .i64 t1) ∧ w'.cell? ⟨B, 3, none⟩ = some (.bool s.lo.i))
        (first | (refine ⟨?_, ?_, ?_⟩ <;> with_reducible assumption) | go_keep)
        (fail)
      all_goals
        go_wp2_with fail
        refine bodyPost_ret (v := .tuple #[spanV t0 t1 0 0 s.lo.i false true, .bool true]) (by simp [results, Tryz.results53, go_sem, *]) rfl ⟨by rw [eO.out], ?_⟩
        with_reducible exact (seven_below B2.out _ _ _ _ _ _ _).drew
    | false =>
      rw [fv] at p8
      have HH := hideR (fun w => delayE_any s.hi w (hh fv))
      simp only [fv] at HO
      generalize delT s.hi = u at *
      obtain ⟨u0, u1, u2⟩ := u
      clear hh
      go_wp2_with fail
      refine (HH.out _).mono ?_
      rintro r w3 ⟨rfl, hb⟩
      replace f0 := kf _ _ hb r0 f0
      replace f1 := kf _ _ hb r1 f1
      replace f2 := kf _ _ hb r2 f2
      replace f3 := kf _ _ hb r3 f3
      replace f4 := kf _ _ hb r4 f4
      replace f5 := kf _ _ hb r5 f5
      replace f6 := kf _ _ hb r6 f6
      replace r0 := kc _ _ hb r0
      replace r1 := kc _ _ hb r1
      replace r2 := kc _ _ hb r2
      replace r3 := kc _ _ hb r3
      replace r4 := kc _ _ hb r4
      replace r5 := kc _ _ hb r5
      replace r6 := kc _ _ hb r6
      replace p0 := kc _ _ hb p0
      replace p1 := kc _ _ hb p1
      replace p2 := kc _ _ hb p2
      replace p3 := kc _ _ hb p3
      replace p4 := kc _ _ hb p4
      replace p5 := kc _ _ hb p5
      replace p6 := kc _ _ hb p6
      replace p7 := kc _ _ hb p7
      replace p8 := kc _ _ hb p8
      replace q0 := kc _ _ hb q0
      replace q1 := kc _ _ hb q1
      have B3 := beyond B2.out hb
      have hlt3 : w1.heap.size < w3.heap.size := World.block_lt_of_cell? _ _ q0
      have bz := single w3 (.cells #[.int .i64 u0, .int .i64 u1] 33)
      replace f0 := kf _ _ bz r0 f0
      replace f1 := kf _ _ bz r1 f1
      replace f2 := kf _ _ bz r2 f2
      replace f3 := kf _ _ bz r3 f3
      replace f4 := kf _ _ bz r4 f4
      replace f5 := kf _ _ bz r5 f5
      replace f6 := kf _ _ bz r6 f6
      replace r0 := kc _ _ bz r0
      replace r1 := kc _ _ bz r1
      replace r2 := kc _ _ bz r2
      replace r3 := kc _ _ bz r3
      replace r4 := kc _ _ bz r4
      replace r5 := kc _ _ bz r5
      replace r6 := kc _ _ bz r6
      replace p0 := kc _ _ bz p0
      replace p1 := kc _ _ bz p1
      replace p2 := kc _ _ bz p2
      replace p3 := kc _ _ bz p3
      replace p4 := kc _ _ bz p4
      replace p5 := kc _ _ bz p5
      replace p6 := kc _ _ bz p6
      replace p7 := kc _ _ bz p7
      replace p8 := kc _ _ bz p8
      replace q0 := kc _ _ bz q0
      replace q1 := kc _ _ bz q1
      have v0 : (w3.alloc (.cells #[.int .i64 u0, .int .i64 u1] 33)).cell? ⟨w3.heap.size, 0, none⟩ = some (.int .i64 u0) := by simp [go_sem]
      have v1 : (w3.alloc (.cells #[.int .i64 u0, .int .i64 u1] 33)).cell? ⟨w3.heap.size, 1, none⟩ = some (.int .i64 u1) := by simp [go_sem]
      go_upto_region 7 with (fail)
      have B4 := hideR (beyond B3 bz)
      clear bz B3 hb HH B2
      generalize w3.alloc (.cells #[.int .i64 u0, .int .i64 u1] 33) = W4 at *
      by_cases c2 : u2 = 0
      · subst c2
        have eO : Hid (o = (spanV t0 t1 u0 u1 s.lo.i s.hi.i false, true)) := by show _ = _; rw [← HO.out]; simp
        clear HO
        have n0 := seven_cell q0 (show w1.heap.size ≠ w.heap.size by omega) (.int .i64 t0) (.int .i64 t1) (.int .i64 u0) (.int .i64 u1) (.bool s.lo.i) (.bool s.hi.i) (.bool false)
        have n1 := seven_cell q1 (show w1.heap.size ≠ w.heap.size by omega) (.int .i64 t0) (.int .i64 t1) (.int .i64 u0) (.int .i64 u1) (.bool s.lo.i) (.bool s.hi.i) (.bool false)
        have n2 := seven_cell v0 (show w3.heap.size ≠ w.heap.size by omega) (.int .i64 t0) (.int .i64 t1) (.int .i64 u0) (.int .i64 u1) (.bool s.lo.i) (.bool s.hi.i) (.bool false)
        have n3 := seven_cell v1 (show w3.heap.size ≠ w.heap.size by omega) (.int .i64 t0) (.int .i64 t1) (.int .i64 u0) (.int .i64 u1) (.bool s.lo.i) (.bool s.hi.i) (.bool false)
        have n4 := seven_cell p3 (show B ≠ w.heap.size by omega) (.int .i64 t0) (.int .i64 t1) (.int .i64 u0) (.int .i64 u1) (.bool s.lo.i) (.bool s.hi.i) (.bool false)
        have n5 := seven_cell p7 (show B ≠ w.heap.size by omega) (.int .i64 t0) (.int .i64 t1) (.int .i64 u0) (.int .i64 u1) (.bool s.lo.i) (.bool s.hi.i) (.bool false)
        have m0 : W4.drew.cell? ⟨w1.heap.size, 0, none⟩ = some (.int .i64 t0) := q0
        have m1 : W4.drew.cell? ⟨w1.heap.size, 1, none⟩ = some (.int .i64 t1) := q1
        have m2 : W4.drew.cell? ⟨w3.heap.size, 0, none⟩ = some (.int .i64 u0) := v0
        have m3 : W4.drew.cell? ⟨w3.heap.size, 1, none⟩ = some (.int .i64 u1) := v1
        have m4 : W4.drew.cell? ⟨B, 3, none⟩ = some (.bool s.lo.i) := p3
        have m5 : W4.drew.cell? ⟨B, 7, none⟩ = some (.bool s.hi.i) := p7
        go_upto_region 9 with (fail)
        go_region_held3 (fun w' => w'.cell? ⟨w1.heap.size, 0, none⟩ = some (.int .i64 t0) ∧ w'.cell? ⟨w1.heap.size, 1, none⟩ = some (.int .i64 t1) ∧ w'.cell? ⟨w3.heap.size, 0, none⟩ = some (.int .i64 u0) ∧ w'.cell? ⟨w3.heap.size, 1, none⟩ = some (.int .i64 u1) ∧ w'.cell? ⟨B, 3, none⟩ = some (.bool s.lo.i) ∧ w'.cell? ⟨B, 7, none⟩ = some (.bool s.hi.i))
          (first | (refine ⟨?_, ?_, ?_, ?_, ?_, ?_⟩ <;> with_reducible assumption) | go_keep)
          (fail)
        all_goals
          go_wp2_with fail
          refine bodyPost_ret (v := .tuple #[spanV t0 t1 u0 u1 s.lo.i s.hi.i false, .bool true]) (by simp [results, Tryz.results53, go_sem, *]) rfl ⟨by rw [eO.out], ?_⟩
          with_reducible exact (seven_below B4.out _ _ _ _ _ _ _).drew
      · have c2' : (u2 != 0) = true := by simpa using c2
        have eO : Hid (o = (spanV 0 0 0 0 false false false, false)) := by show _ = _; rw [← HO.out]; simp [c2]
        clear HO
        go_wp2_with fail
        refine bodyPost_ret (v := .tuple #[spanV 0 0 0 0 false false false, .bool false]) (by simp [results, Tryz.results53, go_sem, *]) rfl ⟨by rw [eO.out], ?_⟩
        exact seven_below B4.out _ _ _ _ _ _ _
  · have c1' : (t2 != 0) = true := by simpa using c1
    have eO : Hid (o = (spanV 0 0 0 0 false false false, false)) := by show _ = _; rw [← HO.out]; simp [c1]
    clear HO hh
    go_wp2_with fail
    refine bodyPost_ret (v := .tuple #[spanV 0 0 0 0 false false false, .bool false]) (by simp [results, Tryz.results53, go_sem, *]) rfl ⟨by rw [eO.out], ?_⟩
    exact seven_below B2.out _ _ _ _ _ _ _
end Go.Proofs.YteifpplemohdcaaGreatDoor
