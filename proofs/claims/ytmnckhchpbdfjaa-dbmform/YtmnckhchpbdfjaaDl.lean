/-
  What must be whatever is asked (live of the statements of dbm).
-/
import Derived.Test.YtmnckhchpbdfjaaDj
namespace Go.Proofs.Ytmnckhchpbdfjaa
open Go.RowKit
set_option linter.unusedVariables false
set_option maxRecDepth 100000
theorem zero1 : (zoneR 1 (zeroR 1 (startR 1 (1 + 1) 0))).map (fun c => [c 0, c 1, c 2, c 3]) = some [1, 1, 1, 1] := by kernel_rfl
theorem univ1 : (zoneR 1 (startR 1 (1 + 1) 0)).map (fun c => [c 0, c 1, c 2, c 3]) = some [1, 1, 2147483647, 1] := by kernel_rfl
def scUpto (l m : List Int) : Nat → Bool
  | 0 => true
  | k + 1 => scUpto l m k && (l.getD k 0 == m.getD k 0)
theorem scUpto_false {l m : List Int} : ∀ {k : Nat} (n : Nat), k ≤ n → scUpto l m k = false → scUpto l m n = false := by
  intro k n h e
  induction n with
  | zero => obtain rfl : k = 0 := by omega
            exact e
  | succ n ih =>
    by_cases q : k = n + 1
    · subst q; exact e
    · simp [scUpto, ih (by omega)]
set_option maxHeartbeats 1000000 in
theorem sameCells_same (g1 g2 c1 c2 n : Nat) (l m : List Int) (w : World) (h1 : RowAt w g1 0 l) (h2 : RowAt w g2 0 m) (hl : l.length = n) (hm : m.length = n) (hn : n ≤ 81) :
    Calls Try.prog 10 #[.slice (some ⟨g1, 0, none⟩) n c1, .slice (some ⟨g2, 0, none⟩) n c2] w fun e w' => e = .returned (.bool (scUpto l m n)) ∧ ∃ k, w' = w.drewN k := by
  have H1 : Hid (∀ j, j < n → w.cell? ⟨g1, j, none⟩ = some (.int .i32 (l.getD j 0))) := fun j hj => by have := h1 j (by omega); simpa using this
  have H2 : Hid (∀ j, j < n → w.cell? ⟨g2, j, none⟩ = some (.int .i32 (m.getD j 0))) := fun j hj => by have := h2 j (by omega); simpa using this
  clear h1 h2 hl hm
  go_enter Try.func10, Try.ntmps10
  go_wp2_with fail
  go_loopw [5] (fun s wr => ∃ (I k : Nat), I ≤ n ∧ s = .int .i64 I ∧ Hid (scUpto l m I = true) ∧ wr = w.drewN k) (fun s _ => n - (intOf s).toNat)
  case atStart => exact ⟨0, 0, by omega, rfl, rfl, rfl⟩
  case round =>
    obtain ⟨I, k, hI, rfl, hq, rfl⟩ := hrel
    by_cases ci : I < n
    · have a1 := H1.out I ci
      have a2 := H2.out I ci
      have st : Hid (scUpto l m (I + 1) = (l.getD I 0 == m.getD I 0)) := by show scUpto l m (I + 1) = _; simp [scUpto, hq.out]
      have i0 : (0 : Int) ≤ (I : Int) := by omega
      have i1 : (I : Int) < (n : Int) := by omega
      generalize l.getD I 0 = x at *
      generalize m.getD I 0 = y at *
      cases cx : (x == y)
      · have st3 : Hid (scUpto l m n = false) := scUpto_false (k := I + 1) n (by omega) (st.out.trans cx)
        clear st hq
        have cy : (x != y) = true := by simp [bne, cx]
        go_wp2_with fail
        go_quiet (fail)
        go_wp2_with fail
        go_ret
        exact ⟨by rw [st3.out]; rfl, _, World.drewN_drewN _ _ _⟩
      · have st3 : Hid (scUpto l m (I + 1) = true) := st.out.trans cx
        clear st hq
        have cy : (x != y) = false := by simp [bne, cx]
        go_wp2_with fail
        go_quiet (fail)
        go_wp2_with fail
        go_roundw
        case rel => exact ⟨I + 1, _, by omega, by go_num, st3, rfl⟩
        case measure => simp [intOf]; omega
    · have st : Hid (scUpto l m n = true) := by
        obtain rfl : I = n := by omega
        exact hq.out
      clear hq
      go_wp2_with fail
      go_ret
      exact ⟨by rw [st.out]; rfl, _, rfl⟩
theorem sc_of_eq (l m : List Int) (n : Nat) (h : ∀ j, j < n → l.getD j 0 = m.getD j 0) : scUpto l m n = true := by
  induction n with
  | zero => rfl
  | succ n ih =>
    have := h n (by omega)
    simp only [scUpto, ih (fun j hj => h j (by omega)), this, beq_self_eq_true, Bool.and_self]
theorem list4 (c : Row) (a b d e : Int) (h : [c 0, c 1, c 2, c 3] = [a, b, d, e]) : listOf c ((1 + 1) * (1 + 1)) = [a, b, d, e] := h
theorem map_some {o : Option Row} {l : List Int} (h : o.map (fun c => [c 0, c 1, c 2, c 3]) = some l) : ∃ c, o = some c ∧ [c 0, c 1, c 2, c 3] = l := by
  cases o with
  | none => simp at h
  | some c => exact ⟨c, rfl, by simpa using h⟩
theorem same_lit (g cap n : Nat) (l : List Int) (T : TypeId) (w : World) (hr : RowAt w g 0 l) (hl : l.length = n) (hn : n ≤ 81) (hp : 0 < n) :
    Calls Try.prog 10 #[.slice (some ⟨g, 0, none⟩) n cap, .slice (some ⟨w.heap.size, 0, none⟩) n n] (w.alloc (.cells (l.map (Value.int .i32)).toArray T)) fun e w' => e = .returned (.bool true) ∧ Below w.heap.size w w' := by
  have hg : g < w.heap.size := World.block_lt_of_cell? _ _ (hr 0 (by omega))
  have h2 : RowAt (w.alloc (.cells (l.map (Value.int .i32)).toArray T)) w.heap.size 0 l := fun j hj => by
    rw [World.cell?_alloc_at _ _ _ _ rfl]
    simp [List.getD, hj]
  refine (sameCells_same g w.heap.size cap n n l l _ (hr.later (below_one w _) hg) h2 hl hl hn).mono ?_
  rintro e w' ⟨rfl, k, rfl⟩
  rw [sc_of_eq l l n (fun _ _ => rfl)]
  exact ⟨rfl, below_drewN (below_one w _) k⟩
set_option maxHeartbeats 2000000 in
theorem live_any (w : World) : Calls Try.prog 6 #[] w fun e w' => e = .returned (.bool true) ∧ Below w.heap.size w w' := by
  obtain ⟨c, ec, hc⟩ := map_some zero1
  obtain ⟨d, ed, hd⟩ := map_some univ1
  have HZ := hideD (zero_dbm 1 w (by omega))
  have HU : Hid (∀ w, Calls Try.prog 28 #[.int .i64 1] w fun e w' => Below w.heap.size w w' ∧ ZoneOut w' w.heap.size 1 e (some d)) := fun w => by
    have := universe_any 1 w (by omega)
    rw [ed] at this
    exact this
  rw [ec] at HZ
  go_enter Try.func6, Try.ntmps6
  go_wp2_with fail
  refine HZ.out.mono ?_
  rintro e w1 ⟨hb1, b1, l1, rfl, z1⟩
  go_wp2_with fail
  refine (HU.out _).mono ?_
  rintro e w2 ⟨hb2, b2, l2, rfl, y2⟩
  have z2 := z1.past hb2
  have B2 := hideD (beyondD hb1 hb2)
  have HC1 := hideD (cells_any b1 1 c w2 z2 (by omega))
  have Z2 := hideD z2
  have Y2 := hideD y2
  clear z1 z2 y2 hb1 hb2 HU HZ
  go_wp2_with fail
  refine HC1.out.mono ?_
  rintro e w3 ⟨⟨v, rfl, g, cap, rfl, hg, hgl, hr⟩, hb3⟩
  rw [list4 c 1 1 1 1 hc] at hr ⊢
  have HS1 := hideD (same_lit g cap 4 [1, 1, 1, 1] 37 w3 hr rfl (by omega) (by omega))
  have B3 := hideD (beyondD B2.out hb3)
  have Z3 := hideD (Z2.out.past hb3)
  have Y3 := hideD (Y2.out.past hb3)
  clear hr hb3 B2 Z2 Y2 HC1
  go_wp2_with fail
  refine HS1.out.mono ?_
  rintro e w4 ⟨rfl, hb4⟩
  have B4 := hideD (beyondD B3.out hb4)
  have Z4 := hideD (Z3.out.past hb4)
  have Y4 := hideD (Y3.out.past hb4)
  have HC2 := hideD (cells_any b2 1 d w4 Y4.out (by omega))
  clear hb4 B3 Z3 Y3 HS1
  go_wp2_with fail
  refine HC2.out.mono ?_
  rintro e w5 ⟨⟨v, rfl, g', cap', rfl, hg', hgl', hr⟩, hb5⟩
  rw [list4 d 1 1 2147483647 1 hd] at hr ⊢
  have HS2 := hideD (same_lit g' cap' 4 [1, 1, 2147483647, 1] 37 w5 hr rfl (by omega) (by omega))
  have B5 := hideD (beyondD B4.out hb5)
  have Z5 := hideD (Z4.out.past hb5)
  have Y5 := hideD (Y4.out.past hb5)
  clear hr hb5 B4 Z4 Y4 HC2
  go_wp2_with fail
  refine HS2.out.mono ?_
  rintro e w6 ⟨rfl, hb6⟩
  have B6 := hideD (beyondD B5.out hb6)
  have Z6 := hideD (Z5.out.past hb6)
  have Y6 := hideD (Y5.out.past hb6)
  clear hb6 B5 Z5 Y5 HS2
  have c0 : c 0 = 1 ∧ c 1 = 1 ∧ c 2 = 1 ∧ c 3 = 1 := by simpa using hc
  have d0 : d 0 = 1 ∧ d 1 = 1 ∧ d 2 = 2147483647 ∧ d 3 = 1 := by simpa using hd
  have N1 : nless d c ((1 + 1) * (1 + 1)) = true := by simp [nless, c0, d0]
  have N2 : nless c d ((1 + 1) * (1 + 1)) = false := by simp [nless, c0, d0]
  have I1 := includes_some b2 b1 1 d c w6 Y6.out Z6.out (by omega) (by rw [c0.1]; rfl)
  rw [N1] at I1
  have HI1 := hideD I1
  clear I1 c0
  go_wp2_with fail
  refine HI1.out.mono ?_
  rintro e w7 ⟨rfl, hb7⟩
  have I2 := includes_some b1 b2 1 c d w7 (Z6.out.past hb7) (Y6.out.past hb7) (by omega) (by rw [d0.1]; rfl)
  rw [N2] at I2
  have HI2 := hideD I2
  have B7 := hideD (beyondD B6.out hb7)
  clear I2 d0 hb7
  go_wp2_with fail
  refine HI2.out.mono ?_
  rintro e w8 ⟨rfl, hb8⟩
  go_wp2_with fail
  go_ret
  exact ⟨rfl, beyondD B7.out hb8⟩
end Go.Proofs.Ytmnckhchpbdfjaa
