/-
  The contracts of ops: follow, Copy.
-/
import Derived.Test.YtfhfdpapppgfpaaGreatDoorZk
import Derived.Deep.MidRow
import Derived.Deep.CutBlock
import Derived.Deep.DeepCutAuto
import Derived.Deep.LoopGhost
namespace Go.Proofs.YtfhfdpapppgfpaaGreatDoor
open Go.RowKit
set_option linter.unusedVariables false
set_option maxRecDepth 100000
/-- A row of another clock's. -/
def folR (t f : Nat) (r : Mat) : Mat := fun i j => if i = t then r f j else r i j
def folK (t f : Nat) : Nat → Mat → Mat
  | 0, r => r
  | K + 1, r => upd (folK t f K r) K t (folK t f K r K f)
/-- The nine bounds of a row, as values. -/
def rowV (r : Mat) (f : Nat) : List Value := (listOf (fun j => r f j) 9).map (Value.int .i32)
theorem rowV_len (r : Mat) (f : Nat) : (rowV r f).length = 9 := by unfold rowV; rw [List.length_map, listOf_len]
theorem rowV_at (r : Mat) (f j : Nat) (hj : j < 9) : (rowV r f)[j]? = some (.int .i32 (r f j)) := by
  unfold rowV
  rw [List.getElem?_map]
  simp [listOf, hj]
theorem rowV_one (r : Mat) (f : Nat) : (rowV r f).toArray.all (·.oneCell') = true := all_oneCell_toArray fun v hv => by
  unfold rowV at hv
  obtain ⟨y, _, rfl⟩ := List.mem_map.1 hv
  rfl
theorem load_orow {b n f : Nat} {r : Mat} {w : World} (hf : f ≤ 8) (hD : ODraft w b n r) :
    (Instr.loadAt 77 (.pointer (some ⟨b, 1 + f * 9, none⟩))).run Tryz.prog w = .ok (.agg (rowV r f).toArray) w := by
  refine run_loadAt_mid w b (1 + f * 9) _ _ (.array 9 45) ?_ (by kernel_rfl) rfl (by rw [rowV_len]; kernel_rfl)
  intro j v hv
  have hj : j < 9 := by have := (List.getElem?_eq_some_iff.1 hv).1; rw [rowV_len] at this; exact this
  rw [rowV_at r f j hj] at hv
  rw [← hv]
  exact hD.cell f j hf (by omega)
theorem there_orow {b n t : Nat} {r : Mat} {w : World} (ht : t ≤ 8) (hD : ODraft w b n r) : w.there b (1 + t * 9) 9 := fun j hj => ⟨by have := hD.cell t j ht (by omega); rw [show (at9 b t j) = ⟨b, 1 + t * 9 + j, none⟩ from rfl] at this; rw [this]; rfl, hD.free t j ht (by omega)⟩
theorem store_orow {b n t f : Nat} {r : Mat} {w : World} (ht : t ≤ 8) (hD : ODraft w b n r) :
    (Instr.storeAt 77 (.pointer (some ⟨b, 1 + t * 9, none⟩)) (.agg (rowV r f).toArray)).run Tryz.prog w = .ok () (w.setCells b (1 + t * 9) (rowV r f)) := by
  have := run_storeAt_mid (P := Tryz.prog) w b (1 + t * 9) 77 (rowV r f).toArray (by have := there_orow ht hD; simpa [rowV_len] using this) (by simp only [List.size_toArray, rowV_len]; kernel_rfl) (rowV_one r f)
  simpa using this
theorem ODraft.row {b n t f : Nat} {r : Mat} {w : World} (ht : t ≤ 8) (hD : ODraft w b n r) : ODraft (w.setCells b (1 + t * 9) (rowV r f)) b n (folR t f r) := by
  have th := there_orow ht hD
  refine ⟨?_, fun i j hi hj => ?_, fun i j hi hj => ?_⟩
  · rw [World.cell?_setCells_out b _ _ w ⟨b, 0, none⟩ (fun _ _ => .inl (by show 0 < 1 + t * 9; omega))]
    exact hD.clocks
  · unfold folR
    by_cases e : i = t
    · subst e
      rw [if_pos rfl]
      exact World.rangeAt_setCells_same w b (1 + i * 9) (rowV r f) (by rw [rowV_len]; exact th) j _ (rowV_at r f j (by omega))
    · rw [if_neg e, World.cell?_setCells_out b _ _ w (at9 b i j) (fun _ _ => by
        rw [rowV_len]
        show 1 + i * 9 + j < 1 + t * 9 ∨ 1 + t * 9 + 9 ≤ 1 + i * 9 + j
        omega)]
      exact hD.cell i j hi hj
  · rw [World.frozen?_setCells]; exact hD.free i j hi hj
theorem below_setRow {w0 w : World} {b o : Nat} (h : Below b w0 w) (vs : List Value) : Below b w0 (w.setCells b o vs) := by
  induction vs generalizing o w with
  | nil => exact h
  | cons v r ih => exact ih (h.setCell (p := ⟨b, o, none⟩) (Nat.le_refl _) v)
theorem only_setRow {w0 w : World} {b o : Nat} (h : OnlyB b w0 w) (vs : List Value) : OnlyB b w0 (w.setCells b o vs) := by
  induction vs generalizing o w with
  | nil => exact h
  | cons v r ih => exact ih (h.set (p := ⟨b, o, none⟩) rfl v)
set_option maxHeartbeats 4000000 in
theorem follow_any (b n t f : Nat) (r : Mat) (w : World) (h : n ≤ 8) (ht : t ≤ 8) (hf : f ≤ 8) (hD : ODraft w b n r) :
    Calls Tryz.prog 49 #[.pointer (some ⟨b, 0, none⟩), .int .i64 t, .int .i64 f] w fun e w' => e = .returned (.tuple #[]) ∧ ODraft w' b n (folK t f (n + 1) (folR t f r)) ∧ Below b w w' ∧ OnlyB b w w' := by
  have hDd : ODraft w.drew b n r := hD.drew
  have D1 := hideD (hDd.row (t := t) (f := f) ht)
  have B1 : Hid (Below b w (w.drew.setCells b (1 + t * 9) (rowV r f))) := below_setRow (Below.refl _ _).drew _
  have O1 : Hid (OnlyB b w (w.drew.setCells b (1 + t * 9) (rowV r f))) := only_setRow (OnlyB.refl _ _).drew _
  have th := there_orow ht hDd
  have RG : Hid (w.drew.rangeAt b (1 + f * 9) (rowV r f)) := fun j v hv => by
    have hj : j < 9 := by have := (List.getElem?_eq_some_iff.1 hv).1; rw [rowV_len] at this; exact this
    rw [rowV_at r f j hj] at hv
    rw [← hv]
    exact hDd.cell f j hf (by omega)
  have RS : Hid ((w.drew.setCells b (1 + t * 9) (rowV r f)).rangeAt b (1 + f * 9) (rowV r f)) := by
    by_cases e : f = t
    · subst e; exact World.rangeAt_setCells_same _ _ _ _ (by rw [rowV_len]; exact th)
    · exact World.rangeAt_setCells_apart RG.out _ _ _ (.inr (by rw [rowV_len]; omega))
  have TH : Hid (w.drew.there b (1 + t * 9) (rowV r f).toArray.size) := by
    show World.there _ _ _ _
    rw [List.size_toArray, rowV_len]; exact th
  have RL := hideD (rowV_len r f)
  have RO := hideD (rowV_one r f)
  have t0 : (0 : Int) ≤ (t : Int) := by omega
  have t9 : (t : Int) < 9 := by omega
  have f0 : (0 : Int) ≤ (f : Int) := by omega
  have f9 : (f : Int) < 9 := by omega
  have tw : IntKind.i64.wrap (t : Int) = (t : Int) := by rw [IntKind.wrap_i64]; omega
  have fw : IntKind.i64.wrap (f : Int) = (f : Int) := by rw [IntKind.wrap_i64]; omega
  generalize rowV r f = rv at *
  clear hD hDd th
  go_enter Tryz.func49, Tryz.ntmps49
  go_wp2_with fail
  refine wp_region_noPanic ?_
  refine wp_region_held_drew (S := fun w' => w'.rangeAt b (1 + f * 9) rv) (by kernel_rfl) ?_ (fun hHeld => ?_)
  · exact RG.out
  refine wpAnyH_take (i := 0) (oi := ⟨_, _, _, _, _, _⟩) (v := ?_) rfl (by kernel_rfl) (by kernel_rfl) (by kernel_rfl) (fun _ _ _ h => h) (Or.inl ⟨by rfl, ?_⟩) (by assumption) ?_
  rotate_left
  · intro w hSw; (try dsimp only at hSw); first | (go_simp; done) | (go_simp; with_reducible rfl)
  try simp only [Act.put, List.setIfInBounds_toArray, List.set_cons_zero, List.set_cons_succ]
  refine wpAnyH_take (i := 1) (oi := ⟨_, _, _, _, _, _⟩) (v := ?_) rfl (by kernel_rfl) (by kernel_rfl) (by kernel_rfl) (fun _ _ _ h => h) (Or.inl ⟨by rfl, ?_⟩) (by assumption) ?_
  rotate_left
  · intro w hSw; (try dsimp only at hSw); first | (go_simp; done) | (go_simp; with_reducible rfl)
  try simp only [Act.put, List.setIfInBounds_toArray, List.set_cons_zero, List.set_cons_succ]
  refine wpAnyH_take (i := 2) (oi := ⟨_, _, _, _, _, _⟩) (v := ?_) rfl (by kernel_rfl) (by kernel_rfl) (by kernel_rfl) (fun _ _ _ h => h) (Or.inl ⟨by rfl, ?_⟩) (by assumption) ?_
  rotate_left
  · intro w hSw; (try dsimp only at hSw); first | (go_simp; done) | (go_simp; with_reducible rfl)
  try simp only [Act.put, List.setIfInBounds_toArray, List.set_cons_zero, List.set_cons_succ]
  refine wpAnyH_take (i := 3) (oi := ⟨_, _, _, _, _, _⟩) (v := ?_) rfl (by kernel_rfl) (by kernel_rfl) (by kernel_rfl) (fun _ _ _ h => h) (Or.inl ⟨by rfl, ?_⟩) (by assumption) ?_
  rotate_left
  · intro w hSw; (try dsimp only at hSw); first | (go_simp; done) | (go_simp; with_reducible rfl)
  try simp only [Act.put, List.setIfInBounds_toArray, List.set_cons_zero, List.set_cons_succ]
  refine wpAnyH_take (i := 4) (oi := ⟨_, _, _, _, _, _⟩) (v := ?_) rfl (by kernel_rfl) (by kernel_rfl) (by kernel_rfl) (fun _ _ _ h => h) (Or.inl ⟨by rfl, ?_⟩) (by assumption) ?_
  rotate_left
  · intro w hSw; (try dsimp only at hSw); first | (go_simp; done) | (go_simp; with_reducible rfl)
  try simp only [Act.put, List.setIfInBounds_toArray, List.set_cons_zero, List.set_cons_succ]
  refine wpAnyH_take (i := 5) (oi := ⟨_, _, _, _, _, _⟩) (v := ?_) rfl (by kernel_rfl) (by kernel_rfl) (by kernel_rfl) (fun _ _ _ h => h) (Or.inl ⟨by rfl, ?_⟩) (by assumption) ?_
  rotate_left
  · intro w hSw; (try dsimp only at hSw); first | (go_simp; done) | (go_simp; with_reducible rfl)
  try simp only [Act.put, List.setIfInBounds_toArray, List.set_cons_zero, List.set_cons_succ]
  refine wpAnyH_take (i := 6) (oi := ⟨_, _, _, _, _, _⟩) (v := ?_) rfl (by kernel_rfl) (by kernel_rfl) (by kernel_rfl) (fun _ _ _ h => h) (Or.inl ⟨by rfl, ?_⟩) (by assumption) ?_
  rotate_left
  · intro w hSw; (try dsimp only at hSw); first | (go_simp; done) | (go_simp; with_reducible rfl)
  try simp only [Act.put, List.setIfInBounds_toArray, List.set_cons_zero, List.set_cons_succ]
  refine wpAnyH_take (i := 7) (oi := ⟨_, _, _, _, _, _⟩) (v := .agg rv.toArray) rfl (by kernel_rfl) (by kernel_rfl) (by kernel_rfl) (fun _ _ _ h => h) (yieldsIf_load_mid (by rfl) 77 _ rfl b (1 + f * 9) rfl rv (.array 9 45) (fun _ h => h) (by kernel_rfl) rfl (by rw [RL.out]; kernel_rfl)) (by assumption) ?_
  try simp only [Act.put, List.setIfInBounds_toArray, List.set_cons_zero, List.set_cons_succ]
  refine wpAnyH_take (i := 8) (oi := ⟨_, _, _, _, _, _⟩) (v := ?_) rfl (by kernel_rfl) (by kernel_rfl) (by kernel_rfl) (fun _ _ _ h => h) (Or.inl ⟨by rfl, ?_⟩) (by assumption) ?_
  rotate_left
  · intro w hSw; (try dsimp only at hSw); first | (go_simp; done) | (go_simp; with_reducible rfl)
  try simp only [Act.put, List.setIfInBounds_toArray, List.set_cons_zero, List.set_cons_succ]
  refine wpAnyH_take (i := 9) (oi := ⟨_, _, _, _, _, _⟩) (v := ?_) rfl (by kernel_rfl) (by kernel_rfl) (by kernel_rfl) (fun _ _ _ h => h) (Or.inl ⟨by rfl, ?_⟩) (by assumption) ?_
  rotate_left
  · intro w hSw; (try dsimp only at hSw); first | (go_simp; done) | (go_simp; with_reducible rfl)
  try simp only [Act.put, List.setIfInBounds_toArray, List.set_cons_zero, List.set_cons_succ]
  refine wpAnyH_take (i := 10) (oi := ⟨_, _, _, _, _, _⟩) (v := ?_) rfl (by kernel_rfl) (by kernel_rfl) (by kernel_rfl) (fun _ _ _ h => h) (Or.inl ⟨by rfl, ?_⟩) (by assumption) ?_
  rotate_left
  · intro w hSw; (try dsimp only at hSw); first | (go_simp; done) | (go_simp; with_reducible rfl)
  try simp only [Act.put, List.setIfInBounds_toArray, List.set_cons_zero, List.set_cons_succ]
  refine wpAnyH_ready (rs := [11]) (by kernel_rfl) (by simp) ?_
  refine AllReadyH.cons (o := ⟨_, _, _, _, _, _⟩) rfl (fun K hK => ?_) AllReadyH.nil
  refine wp_store_mid 77 _ _ rfl b (1 + t * 9) rv.toArray rfl rfl TH.out (by simp only [List.size_toArray, RL.out]; kernel_rfl) RO.out ?_
  refine hK.out _ _ ?_ (fun hHeld => ?_)
  · exact RS.out
  clear hK K
  refine wpAnyH_done (by kernel_rfl) ?_ _
  refine NoPanic.normal ?_
  generalize w.drew.setCells b (1 + t * 9) rv = w1 at *
  clear RG RS TH RL RO hHeld
  go_wp2_with fail
  go_loopw [6] (fun s wr => ∃ (K : Nat), K ≤ n + 1 ∧ s = .int .i64 (K : Int) ∧ Hid (ODraft wr b n (folK t f K (folR t f r))) ∧ Hid (Below b w wr) ∧ Hid (OnlyB b w wr)) (fun s _ => n + 1 - (intOf s).toNat)
  case atStart => exact ⟨0, by omega, rfl, D1, B1, O1⟩
  case round =>
    obtain ⟨K, hK, rfl, hD, hB, hO⟩ := hrel
    clear D1 B1 O1
    have q0 := hD.out.clocks
    by_cases ck : K ≤ n
    · have k9 : (K : Int) < 9 := by omega
      have q1 := hD.out.cell K t (by omega) ht
      have q2 := hD.out.free K t (by omega) ht
      have q3 := hD.out.cell K f (by omega) hf
      have nx : Hid (folK t f (K + 1) (folR t f r) = upd (folK t f K (folR t f r)) K t (folK t f K (folR t f r) K f)) := rfl
      generalize folK t f K (folR t f r) = s at *
      have hD3 := hideD (hD.out.set (i := K) (j := t) (by omega) ht (s K f))
      have hB3 := hideD (hB.out.setCell (p := at9 b K t) (Nat.le_refl _) (.int .i32 (s K f)))
      have hO3 := hideD (hO.out.set (p := at9 b K t) rfl (.int .i32 (s K f)))
      rw [← nx.out] at hD3
      generalize s K f = y at *
      clear hD hB hO tw fw
      go_upto_region 4 with (fail)
      clear q0
      go_big_region
      all_goals
        have hD4 := hideD (hD3.out.drew)
        have hB4 := hideD (hB3.out.drew)
        have hO4 := hideD (hO3.out.drew)
        go_wp2_with fail
        go_roundw
        case rel => exact ⟨K + 1, by omega, by go_num, by first | exact hD4 | exact hD3, by first | exact hB4 | exact hB3, by first | exact hO4 | exact hO3⟩
        case measure => simp [intOf]; omega
    · have eK : K = n + 1 := by omega
      subst eK
      clear tw fw
      go_wp2_with fail
      go_end0
      exact ⟨rfl, hD.out, hB.out, hO.out⟩
theorem folR_32 {t f : Nat} {r : Mat} (h : R32 r) : R32 (folR t f r) := fun i j => by
  unfold folR; split
  · exact h f j
  · exact h i j
theorem folK_32 {t f : Nat} {r : Mat} (h : R32 r) : ∀ K, R32 (folK t f K r)
  | 0 => h
  | K + 1 => (folK_32 h K).upd (folK_32 h K K f).1 (folK_32 h K K f).2
/-- What Copy tells: an error, or the draft's zone. -/
def CopyOut (w' : World) (B n : Nat) (e : Ending) (x y : Int) (r : Mat) : Prop :=
  ((clockB n x && clockB n y) = false ∧ e = errOf 12) ∨ ((clockB n x && clockB n y) = true ∧ OpsOut w' B n e (folK x.toNat y.toNat (n + 1) (folR x.toNat y.toNat r)))
set_option maxHeartbeats 4000000 in
theorem copy_main (b n : Nat) (x y : Int) (c : Row) (w : World) (h : n ≤ 8) (hz : ZoneAt w b n c) (hc : C32 c) :
    Calls Tryz.prog 14 #[.pointer (some ⟨b, 0, none⟩), .int .i64 x, .int .i64 y] w fun e w' => CopyOut w' w.heap.size n e x y (oR n c ((n + 1) * (n + 1))) ∧ Below w.heap.size w w' := by
  have HD := hideD (odraft_any b n c w h hz)
  have H32 := hideD (oR_32 (n := n) (K := (n + 1) * (n + 1)) hc)
  generalize oR n c ((n + 1) * (n + 1)) = r at *
  have HH : Hid (∀ w' g, w'.cell? ⟨g, 0, none⟩ = some (.int .i64 x) → w'.cell? ⟨g, 1, none⟩ = some (.int .i64 y) → Calls Tryz.prog 47 #[.agg #[.int .i64 n], .slice (some ⟨g, 0, none⟩) 2 2] w' fun e w'' => e = .returned (.bool (clockB n x && clockB n y)) ∧ Below w'.heap.size w' w'') := fun w' g h0 h1 => by
    have := ohas_any n (.slice (some ⟨g, 0, none⟩) 2 2) [x, y] w' h (by simp) (.inr ⟨g, 0, 2, rfl, fun j hj => by
      have hj' : j < 2 := hj
      rcases (show j = 0 ∨ j = 1 by omega) with rfl | rfl
      · exact h0
      · exact h1⟩)
    have e : hasA n [x, y] ([x, y] : List Int).length = (clockB n x && clockB n y) := by
      show ((true && clockB n x) && clockB n y) = _
      rw [Bool.true_and]
    rw [e] at this
    exact this
  have HF : Hid (∀ (d t f : Nat) w, t ≤ 8 → f ≤ 8 → ODraft w d n r → _) := fun d t f w ht hf hD => follow_any d n t f r w h ht hf hD
  clear hz hc
  go_enter Tryz.func14, Tryz.ntmps14
  go_wp2_with fail
  refine HD.out.mono ?_
  rintro e w1 ⟨⟨d, rfl, hd, hD⟩, hb⟩
  have hD1 := hideD hD
  have hB1 := hideD hb
  have q0 := hD.clocks
  have Ba := hideD (below_one w1 (.cells #[.int .i64 x, .int .i64 y] 3))
  have HA := hideD (HH.out (w1.alloc (.cells #[.int .i64 x, .int .i64 y] 3)) w1.heap.size (by simp [go_sem]) (by simp [go_sem]))
  clear hD hb HD HH
  go_wp2_with fail
  generalize w1.alloc (.cells #[.int .i64 x, .int .i64 y] 3) = wa at *
  refine HA.out.mono ?_
  rintro e w2 ⟨rfl, hb2⟩
  have Bb := hideD (beyondD Ba.out hb2)
  have B2 := hideD (beyondD hB1.out Bb.out)
  have D2 := hideD (hD1.out.past Bb.out)
  clear HA Ba hb2 Bb hB1 hD1 q0
  cases ha : (clockB n x && clockB n y) with
  | false =>
    have HX := hideD ha
    clear ha HF D2
    go_wp2_with fail
    exact bodyPost_ret (v := .tuple #[.pointer none, .int .i64 12]) (by simp [results, Tryz.results14, go_sem]) rfl ⟨.inl ⟨HX.out, rfl⟩, B2.out⟩
  | true =>
    have HX := hideD ha
    have hx : 1 ≤ x ∧ x ≤ n ∧ 1 ≤ y ∧ y ≤ n := by
      rw [Bool.and_eq_true] at ha
      have h1 := of_decide_eq_true ha.1
      have h2 := of_decide_eq_true ha.2
      omega
    obtain ⟨t, rfl⟩ := Int.eq_ofNat_of_zero_le (show 0 ≤ x by omega)
    obtain ⟨f, rfl⟩ := Int.eq_ofNat_of_zero_le (show 0 ≤ y by omega)
    have F2 := hideD (HF.out d t f w2 (by omega) (by omega) D2.out)
    clear ha hx HF D2
    go_wp2_with fail
    refine F2.out.mono ?_
    rintro e w3 ⟨rfl, hD3, hb3, -⟩
    have B3 := hideD (B2.out.trans (hb3.mono hd))
    have HZ := hideD (ozone_out d n w.heap.size _ w3 h hD3 (folK_32 (folR_32 H32.out) (n + 1)) B3.out.size)
    clear F2 hD3 hb3 B2
    go_wp2_with fail
    refine HZ.out.mono ?_
    rintro e w4 ⟨p, kk, rfl, ho, hb⟩
    go_wp2_with fail
    exact bodyPost_ret (v := .tuple #[.pointer p, .int .i64 kk]) (by simp [results, Tryz.results14, go_sem]) rfl ⟨.inr ⟨HX.out, ho.out⟩, beyondD B3.out hb.out⟩
end Go.Proofs.YtfhfdpapppgfpaaGreatDoor
