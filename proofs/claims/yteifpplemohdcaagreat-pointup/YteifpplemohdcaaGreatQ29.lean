/-
  The contracts of ops: Free, Unset.
-/
import Derived.Test.YteifpplemohdcaaGreatQ24
import Derived.Test.YteifpplemohdcaaGreatQ27
import Derived.Test.YteifpplemohdcaaGreatQ4
import Derived.Test.YteifpplemohdcaaGreatQ28
namespace Go.Proofs.YteifpplemohdcaaGreat
open Go.RowKit
set_option linter.unusedVariables false
set_option maxRecDepth 100000
def freeL (n : Nat) (l : List Int) : Nat → Mat → Mat
  | 0, r => r
  | K + 1, r => freeK (l.getD K 0).toNat (n + 1) (freeL n l K r)
theorem freeL_32 {n : Nat} {l : List Int} {r : Mat} (h : R32 r) : ∀ K, R32 (freeL n l K r)
  | 0 => h
  | K + 1 => freeK_32 (freeL_32 h K) _
/-- What Free tells: an error, or the draft's zone. -/
def FreeOut (w' : World) (B n : Nat) (e : Ending) (l : List Int) (r : Mat) : Prop :=
  (hasA n l l.length = false ∧ e = errOf 12) ∨ (hasA n l l.length = true ∧ OpsOut w' B n e (freeL n l l.length r))
set_option maxHeartbeats 4000000 in
theorem free_main (b n q cap : Nat) (ad : Option Addr) (c : Row) (l : List Int) (w : World) (h : n ≤ 8) (hz : ZoneAt w b n c) (hc : C32 c) (hl : l.length = q) (hv : IntsAt w (.slice ad q cap) l) (hq : q ≤ 9223372036854775807) :
    Calls Tryz.prog 104 #[.pointer (some ⟨b, 0, none⟩), .slice ad q cap] w fun e w' => FreeOut w' w.heap.size n e l (oR n c ((n + 1) * (n + 1))) ∧ Below w.heap.size w w' := by
  have HD := hideD (odraft_any b n c w h hz)
  have H32 := hideD (oR_32 (n := n) (K := (n + 1) * (n + 1)) hc)
  generalize oR n c ((n + 1) * (n + 1)) = r at *
  have HI := hideD hv
  have HH : Hid (∀ w', IntsAt w' (.slice ad q cap) l → Calls Tryz.prog 144 #[.agg #[.int .i64 n], .slice ad q cap] w' fun e w'' => e = .returned (.bool (hasA n l q)) ∧ Below w'.heap.size w' w'') := fun w' hi => by
    have := ohas_any n (.slice ad q cap) l w' h (by omega) hi
    rw [hl] at this
    exact this
  have HF : Hid (∀ (d x : Nat) r w, x ≤ 8 → ODraft w d n r → _) := fun d x r w hx hD => free_any d n x r w h hx hD
  have HC : Hid (∀ w', Below w.heap.size w w' → ∀ k, k < q → ∃ cb off, ad = some ⟨cb, off, none⟩ ∧ w'.cell? ⟨cb, off + k, none⟩ = some (.int .i64 (l.getD k 0))) := fun w' hb k hk => by
    rcases hv with ⟨ad', c', e, e'⟩ | ⟨cb, off, cap', e, hcell⟩
    · subst e'; simp at hl; omega
    · injection e with e1 e2 e3
      exact ⟨cb, off, e1, kc _ _ hb (hcell k (by omega))⟩
  have HO : Hid (∀ w' e, (hasA n l q = false ∧ e = errOf 12) ∨ (hasA n l q = true ∧ OpsOut w' w.heap.size n e (freeL n l q r)) → FreeOut w' w.heap.size n e l r) := fun w' e he => by unfold FreeOut; rw [hl]; exact he
  have AT : Hid (hasA n l q = true → ∀ k, k < q → 1 ≤ l.getD k 0 ∧ l.getD k 0 ≤ n) := fun ha k hk => hasA_at ha k hk
  clear hz hc hl hv
  have q1 : (q : Int) ≤ 9223372036854775807 := by omega
  go_enter Tryz.func104, Tryz.ntmps104
  go_wp2_with fail
  refine HD.out.mono ?_
  rintro e w1 ⟨⟨d, rfl, hd, hD⟩, hb⟩
  have hD1 := hideD hD
  have hB1 := hideD hb
  have q0 := hD.clocks
  have HHK : Hid (∀ w', Below w1.heap.size w1 w' → Calls Tryz.prog 144 #[.agg #[.int .i64 n], .slice ad q cap] w' fun e w'' => e = .returned (.bool (hasA n l q)) ∧ Below w'.heap.size w' w'') := fun w' hb' => HH.out w' ((HI.out.past hb).past hb')
  clear hD hb HD HH HI
  cases ha : hasA n l q with
  | false =>
    rw [ha] at HHK
    have HA := hideD ha
    clear ha
    go_wp2_with fail
    refine (HHK.out _ (Below.refl _ _)).mono ?_
    rintro e w2 ⟨rfl, hb2⟩
    have hB2 := hideD (beyondD hB1.out hb2)
    clear hb2 HHK
    go_wp2_with fail
    exact bodyPost_ret (v := .tuple #[.pointer none, .int .i64 12]) (by simp [results, Tryz.results104, go_sem]) rfl ⟨HO.out _ _ (.inl ⟨HA.out, rfl⟩), hB2.out⟩
  | true =>
    rw [ha] at HHK
    have HA := hideD ha
    clear ha
    go_wp2_with fail
    refine (HHK.out _ (Below.refl _ _)).mono ?_
    rintro e w2 ⟨rfl, hb2⟩
    have hB2 := hideD (beyondD hB1.out hb2)
    have hD2 := hideD (hD1.out.past hb2)
    clear hb2 HHK hD1 hB1 q0
    go_wp2_with fail
    go_loopw [22] (fun s wr => ∃ (K : Nat), K ≤ q ∧ s = .int .i64 (K : Int) ∧ Hid (ODraft wr d n (freeL n l K r)) ∧ Hid (Below w.heap.size w wr)) (fun s _ => q - (intOf s).toNat)
    case atStart => exact ⟨0, by omega, rfl, hD2, hB2⟩
    case round =>
      obtain ⟨K, hK, rfl, hD, hB⟩ := hrel
      clear hD2 hB2
      by_cases ck : K < q
      · have k0 : (0 : Int) ≤ (K : Int) := by omega
        have k1 : (K : Int) < (q : Int) := by omega
        obtain ⟨cb, off, rfl, c0⟩ := HC.out wr hB.out K ck
        have at1 := AT.out HA.out K ck
        obtain ⟨x, hx⟩ := Int.eq_ofNat_of_zero_le (show 0 ≤ l.getD K 0 by omega)
        have nx : Hid (freeL n l (K + 1) r = freeK x (n + 1) (freeL n l K r)) := by show _ = _; rw [freeL, hx]; rfl
        rw [hx] at c0 at1
        have HFK := hideD (HF.out d x _ wr (by omega) hD.out)
        clear hx at1 hD
        go_wp2_with fail
        refine HFK.out.mono ?_
        rintro e w3 ⟨rfl, hD3, hb3, -⟩
        have hD4 : Hid (ODraft w3 d n (freeL n l (K + 1) r)) := by show ODraft _ _ _ _; rw [nx.out]; exact hD3
        have hB4 := hideD (hB.out.trans (hb3.mono hd))
        clear hD3 hb3 HFK nx c0 hB
        go_wp2_with fail
        go_roundw
        case rel => exact ⟨K + 1, by omega, by go_num, hD4, hB4⟩
        case measure => simp [intOf]; omega
      · have eK : K = q := by omega
        subst eK
        have HZ := hideD (ozone_out d n w.heap.size _ wr h hD.out (freeL_32 H32.out K) hB.out.size)
        go_wp2_with fail
        refine HZ.out.mono ?_
        rintro e w3 ⟨p, kk, rfl, ho, hb⟩
        go_wp2_with fail
        exact bodyPost_ret (v := .tuple #[.pointer p, .int .i64 kk]) (by simp [results, Tryz.results104, go_sem]) rfl ⟨HO.out _ _ (.inr ⟨HA.out, ho.out⟩), beyondD hB.out hb.out⟩
/-- One clock. -/
theorem free_one (b n g cap x : Nat) (c : Row) (w : World) (h : n ≤ 8) (hz : ZoneAt w b n c) (hc : C32 c) (x1 : 1 ≤ x) (hx : x ≤ n) (hg : w.cell? ⟨g, 0, none⟩ = some (.int .i64 x)) :
    Calls Tryz.prog 104 #[.pointer (some ⟨b, 0, none⟩), .slice (some ⟨g, 0, none⟩) 1 cap] w fun e w' => OpsOut w' w.heap.size n e (freeK x (n + 1) (oR n c ((n + 1) * (n + 1)))) ∧ Below w.heap.size w w' := by
  refine (free_main b n 1 cap _ c [(x : Int)] w h hz hc rfl (.inr ⟨g, 0, cap, rfl, fun j hj => ?_⟩) (by omega)).mono fun e w' ⟨ho, hb⟩ => ⟨?_, hb⟩
  · obtain rfl : j = 0 := by simp at hj; omega
    exact hg
  · have ha : hasA n [(x : Int)] 1 = true := by
      show (true && clockB n x) = true
      rw [Bool.true_and]
      exact decide_eq_true (by omega)
    rcases ho with ⟨h1, -⟩ | ⟨-, h1⟩
    · rw [show [(x : Int)].length = 1 from rfl, ha] at h1; cases h1
    · exact h1
theorem unsetE_err (v : Value) (x k e : Int) (w : World) (he : (e != 0) = true) (HS : Hid (Calls Tryz.prog 98 #[v, .int .i64 x, .int .i64 k] w fun z w' => z = .returned (.int .i64 e) ∧ Below w.heap.size w w')) :
    Calls Tryz.prog 32 #[v, .int .i64 x, .int .i64 k] w fun z w' => z = errOf e ∧ Below w.heap.size w w' := by
  go_enter Tryz.func32, Tryz.ntmps32
  go_wp2_with fail
  refine HS.out.mono ?_
  rintro z w1 ⟨rfl, hb⟩
  go_wp2_with fail
  exact bodyPost_ret (v := .tuple #[.pointer none, .int .i64 e]) (by simp [results, Tryz.results32, go_sem]) rfl ⟨rfl, hb⟩
/-- The two limits by which a clock has a number. -/
def exL (x : Nat) (k : Int) : Lims := ⟨2, fun j => if j = 0 then (x : Int) else 0, fun j => if j = 0 then 0 else (x : Int), fun j => if j = 0 then 2 * k + 1 else -(2 * k) + 1⟩
theorem exL_lim (x : Nat) (k : Int) (r : Mat) : limO (exL x k) 2 r = limM (limM r x 0 (2 * k + 1)) 0 x (-(2 * k) + 1) := rfl
end Go.Proofs.YteifpplemohdcaaGreat

/-
  The walk of the statement OpsCells.
-/
namespace Go.Proofs.YteifpplemohdcaaGreat
open Go.RowKit
set_option linter.unusedVariables false
set_option maxRecDepth 100000
theorem ops_of {w' : World} {B n m : Nat} {e : Ending} {M : Mat} {l : Row} (hm : m = (n + 1) * (n + 1)) (h : OpsOut w' B n e M) (hr : rowsL n M (n + 1) = listOf l m) (hl : ∀ k, rightB (l k) = true) : ZoneOut w' B n e (zoneR n (drf n m (listOf l m))) := by
  have ha : allRight (listOf l m) m = true := allRight_of _ _ fun j hj => by rw [listOf_get _ _ _ hj]; exact hl j
  unfold OpsOut at h
  rw [hr, ← hm, ha] at h
  rcases h with ⟨h, -⟩ | ⟨-, h⟩
  · cases h
  · exact h
end Go.Proofs.YteifpplemohdcaaGreat

/-
  Zones by both ways: what each tells, and that they are the same (both, same of the statements of ops).
-/
namespace Go.Proofs.YteifpplemohdcaaGreat
open Go.RowKit
set_option linter.unusedVariables false
set_option maxRecDepth 100000
theorem oR_zero {n m : Nat} : oR n (fun _ => 0) m = fun _ _ => 0 := by
  funext i j
  unfold oR
  split <;> rfl
/-! ### same, both -/
end Go.Proofs.YteifpplemohdcaaGreat

/-
  What is told of a zone by Up, Down, Free, Reset, Unset, in one form; what OpsTwice asks.
-/
namespace Go.Proofs.YteifpplemohdcaaGreat
open Go.RowKit
set_option linter.unusedVariables false
set_option maxRecDepth 100000
/-- What a call tells of zones: a zone, or that it has a bound that may not be. -/
def OTells (w : World) (n f : Nat) (args : Array Value) (o : Option Row) : Prop := Calls Tryz.prog f args w fun e w' => (∃ B, ZoneOut w' B n e o) ∧ Below w.heap.size w w'
theorem ops_zone {w' : World} {B n m : Nat} {e : Ending} {M : Mat} {o : Option Row} (hm : m = (n + 1) * (n + 1)) (hR : RightM n M) (ho : zoneR n (drf n m (rowsL n M (n + 1))) = o) (h : OpsOut w' B n e M) : ZoneOut w' B n e o := by
  rcases h with ⟨h3, -⟩ | ⟨-, h3⟩
  · rw [← hm, allRight_rows hm hR] at h3
    cases h3
  · rw [← hm] at h3
    rw [← ho]
    exact h3
theorem tells_of {w : World} {n m f : Nat} {args : Array Value} {M : Mat} {o : Option Row} (hm : m = (n + 1) * (n + 1)) (hR : RightM n M) (ho : zoneR n (drf n m (rowsL n M (n + 1))) = o) (h : Calls Tryz.prog f args w fun e w' => OpsOut w' w.heap.size n e M ∧ Below w.heap.size w w') : OTells w n f args o :=
  h.mono fun e w' ⟨h1, h2⟩ => ⟨⟨_, ops_zone hm hR ho h1⟩, h2⟩
theorem zc_32 {n m : Nat} {c : Row} (hm : m = (n + 1) * (n + 1)) (h : ZC n m c) : C32 c := fun k => by
  have := zc_right hm h k
  simp only [rightB, decide_eq_true_eq] at this
  omega
theorem right_zero {n m : Nat} {M : Mat} (h : ∀ i j, i ≤ n → j ≤ n → M i j = 0 ∨ M i j = 1 ∨ M i j = 2147483647) : RightM n M := fun i j hi hj => by
  rcases h i j hi hj with h | h | h
  · exact .inr (by omega)
  · exact .inr (by omega)
  · exact .inl h
/-- The cells of a zone in which a clock is any. -/
theorem free_row {n m x : Nat} {c : Row} (hn : n ≤ 8) (hm : m = (n + 1) * (n + 1)) (h : ZC n m c) (x1 : 1 ≤ x) (hx : x ≤ n) : ∃ c1, ZC n m c1 ∧ incB m c1 c = true ∧ RightM n (freeK x (n + 1) (oR n c m)) ∧ zoneR n (drf n m (rowsL n (freeK x (n + 1) (oR n c m)) (n + 1))) = some c1 ∧ (∀ p, FullC n m p c → c1 = cellsUpto n (frP x p) m) ∧ (c = (fun _ => 0) → c1 = fun _ => 0) := by
  rcases h with rfl | ⟨p, hp⟩
  · refine ⟨fun _ => 0, .inl rfl, incB_iff.2 (.inl (by decide)), right_zero (m := m) fun i j hi hj => ?_, pm_hollow hm ?_, fun p hp => ?_, fun _ => rfl⟩
    · rw [oR_zero, freeK_at x1]
      split
      · rw [if_pos (by omega)]; exact .inr (.inr rfl)
      · split
        · rw [if_pos (by omega)]; exact .inl rfl
        · exact .inl rfl
    · rw [oR_zero, freeK_at x1, if_neg (by omega), if_neg (by omega)]
    · have := hp.zero hm
      cases this
  · have F := frP_full hm hp x1
    refine ⟨_, .inr ⟨_, F⟩, full_inc F hp hm (frP_le hp hx), ((hp.rd hm).free x1).right, free_is hn hm hp x1, fun p' hp' => ?_, fun e => ?_⟩
    · rw [← free_is hn hm hp x1 |> fun e => Option.some.inj (e.symm.trans (free_is hn hm hp' x1))]
    · have := hp.zero hm
      rw [e] at this
      cases this
theorem setE_ok {n x : Nat} {k : Int} (x1 : 1 ≤ x) (hx : x ≤ n) (k0 : 0 ≤ k) (k1 : k ≤ 1048576) : setE n x k = 0 := by
  unfold setE
  rw [if_pos (show clockB n x = true from decide_eq_true (by omega)), if_pos ⟨k0, k1⟩]
set_option maxHeartbeats 2000000 in
theorem unset_tells {n m x : Nat} {k : Int} {c : Row} {o o' : Option Row} (hn : n ≤ 8) (hm : m = (n + 1) * (n + 1)) (hc : C32 c) (x1 : 1 ≤ x) (hx : x ≤ n) (k0 : 0 ≤ k) (k1 : k ≤ 1048576)
    (hR : RightM n (limM (limM (oR n c m) x 0 (2 * k + 1)) 0 x (-(2 * k) + 1))) (ho : zoneR n (drf n m (rowsL n (limM (limM (oR n c m) x 0 (2 * k + 1)) 0 x (-(2 * k) + 1)) (n + 1))) = o)
    (h0 : o = none → o' = none) (h1 : ∀ d, o = some d → RightM n (freeK x (n + 1) (oR n d m)) ∧ zoneR n (drf n m (rowsL n (freeK x (n + 1) (oR n d m)) (n + 1))) = o') (w : World) (b : Nat) (hz : ZoneAt w b n c) :
    OTells w n 32 #[.pointer (some ⟨b, 0, none⟩), .int .i64 x, .int .i64 k] o' := by
  have HS := settable_any b n c x k w hn hz
  rw [setE_ok x1 hx k0 k1] at HS
  have HS := hideD HS
  have HE : Hid (∀ w, _) := fun w => exactly_any x k w k0 k1
  have HC : Hid (∀ w' g, Below w.heap.size w w' → w'.cell? ⟨g, 0, none⟩ = some (.int .i64 x) → w'.cell? ⟨g, 1, none⟩ = some (.int .i64 0) → w'.cell? ⟨g, 2, none⟩ = some (.int .i32 (2 * k + 1)) → w'.cell? ⟨g, 3, none⟩ = some (.int .i64 0) → w'.cell? ⟨g, 4, none⟩ = some (.int .i64 x) → w'.cell? ⟨g, 5, none⟩ = some (.int .i32 (-(2 * k) + 1)) → Calls Tryz.prog 103 #[.pointer (some ⟨b, 0, none⟩), .slice (some ⟨g, 0, none⟩) 2 2] w' fun e w'' => (∃ B, ZoneOut w'' B n e o) ∧ Below w'.heap.size w' w'') := by
    intro w' g hb g0 g1 g2 g3 g4 g5
    have lr : LimRow w' g 0 (exL x k) := fun j hj => by
      rcases (show j = 0 ∨ j = 1 by have : j < 2 := hj; omega) with rfl | rfl
      · exact ⟨g0, g1, g2⟩
      · exact ⟨g3, g4, g5⟩
    refine (con_main b n g 0 2 c (exL x k) w' hn (hz.past hb) hc lr (World.block_lt_of_cell? _ _ g0) (fun j hj => ?_) (by show 2 ≤ 9223372036854775807; decide)).mono fun e w'' ⟨h, hb'⟩ => ⟨?_, hb'⟩
    · show -2147483648 ≤ (if j = 0 then 2 * k + 1 else -(2 * k) + 1) ∧ (if j = 0 then 2 * k + 1 else -(2 * k) + 1) ≤ 2147483647
      split <;> omega
    · have hb1 : bndA n (exL x k) 2 = true := by
        show (true && decide (0 ≤ (x : Int) ∧ (x : Int) ≤ n ∧ (0 : Int) ≤ 0 ∧ (0 : Int) ≤ n) && decide ((0 : Int) ≤ 0 ∧ (0 : Int) ≤ n ∧ 0 ≤ (x : Int) ∧ (x : Int) ≤ n)) = true
        rw [decide_eq_true (by omega), decide_eq_true (by omega)]; rfl
      have hr1 : rgtA (exL x k) 2 = true := by
        show (true && rightB (2 * k + 1) && rightB (-(2 * k) + 1)) = true
        unfold rightB
        rw [decide_eq_true (by omega), decide_eq_true (by omega)]; rfl
      rcases h with ⟨h, -⟩ | ⟨-, h, -⟩ | ⟨-, -, h⟩
      · rw [show (exL x k).q = 2 from rfl, hb1] at h; cases h
      · rw [show (exL x k).q = 2 from rfl, hr1] at h; cases h
      · rw [show (exL x k).q = 2 from rfl, exL_lim, ← hm] at h
        exact ⟨_, ops_zone hm hR ho h⟩
  have HF : Hid (∀ w' z g d, o = some d → ZoneAt w' z n d → w'.cell? ⟨g, 0, none⟩ = some (.int .i64 x) → Calls Tryz.prog 104 #[.pointer (some ⟨z, 0, none⟩), .slice (some ⟨g, 0, none⟩) 1 1] w' fun e w'' => (∃ B, ZoneOut w'' B n e o') ∧ Below w'.heap.size w' w'') := by
    intro w' z g d hd hz' hg
    obtain ⟨r1, r2⟩ := h1 d hd
    have c32 : C32 d := by rw [hd] at ho; exact zoneR_32 ho
    have := free_one z n g 1 x d w' hn hz' c32 x1 hx hg
    rw [← hm] at this
    exact this.mono fun e w'' ⟨h, hb⟩ => ⟨⟨_, ops_zone hm r1 r2 h⟩, hb⟩
  clear hz hc hR ho h1
  unfold OTells
  go_enter Tryz.func32, Tryz.ntmps32
  go_wp2_with fail
  refine HS.out.mono ?_
  rintro z w1 ⟨rfl, hb1⟩
  have B1 := hideD hb1
  clear hb1 HS
  go_wp2_with fail
  refine (HE.out _).mono ?_
  rintro e w2 ⟨⟨g, rfl, hg, g0, g1, g2, g3, g4, g5⟩, hb2⟩
  have B2 := hideD (beyondD B1.out hb2)
  have HC2 := hideD (HC.out w2 g B2.out g0 g1 g2 g3 g4 g5)
  clear hb2 HE HC B1 hg g0 g1 g2 g3 g4 g5
  go_wp2_with fail
  refine HC2.out.mono ?_
  rintro e w3 ⟨⟨B, hO⟩, hb3⟩
  have B3 := hideD (beyondD B2.out hb3)
  clear HC2 hb3 B2
  cases o with
  | none =>
    obtain rfl : e = errOf 10 := hO
    have e0 := h0 rfl
    clear HF h0
    go_wp2_with fail
    exact bodyPost_ret (v := .tuple #[.pointer none, .int .i64 10]) (by simp [results, Tryz.results32, go_sem]) rfl ⟨⟨0, by rw [e0]; rfl⟩, B3.out⟩
  | some d =>
    obtain ⟨z, -, rfl, hzd⟩ := hO
    have bo := below_one w3 (.cells #[.int .i64 x] 3)
    have HF3 := hideD (HF.out (w3.alloc (.cells #[.int .i64 x] 3)) z w3.heap.size d rfl (hzd.past bo) (by simp [go_sem]))
    have B4 := hideD (beyondD B3.out bo)
    clear HF h0 hzd bo B3
    go_wp2_with fail
    refine HF3.out.mono ?_
    rintro e w4 ⟨⟨B', hO'⟩, hb4⟩
    have B5 := hideD (beyondD B4.out hb4)
    clear HF3 hb4 B4
    cases o' with
    | none =>
      obtain rfl : e = errOf 10 := hO'
      go_wp2_with fail
      exact bodyPost_ret (v := .tuple #[.pointer none, .int .i64 10]) (by simp [results, Tryz.results32, go_sem]) rfl ⟨⟨0, rfl⟩, B5.out⟩
    | some d' =>
      obtain ⟨z', l', rfl, hz'⟩ := hO'
      have HZ := hideD hz'
      clear hz'
      go_wp2_with fail
      exact bodyPost_ret (v := .tuple #[.pointer (some ⟨z', 0, none⟩), .int .i64 0]) (by simp [results, Tryz.results32, go_sem]) rfl ⟨⟨B', z', l', rfl, HZ.out⟩, B5.out⟩
end Go.Proofs.YteifpplemohdcaaGreat

/-
  What OpsTwice asks of a clock that is set, and from where.
-/
namespace Go.Proofs.YteifpplemohdcaaGreat
open Go.RowKit
set_option linter.unusedVariables false
set_option maxRecDepth 100000
theorem RightM.lim {n i j : Nat} {M : Mat} {v : Int} (h : RightM n M) (hi : i ≤ n) (hj : j ≤ n) (v0 : -536870912 ≤ v) (v1 : v ≤ 536870913) : RightM n (limM M i j v) := fun a b ha hb => by
  have r := h i j hi hj
  unfold limM upd
  split
  · exact .inr (by omega)
  · exact h a b ha hb
/-- The draft of a zone with a clock at a number. -/
def exM (n m x : Nat) (k : Int) (c : Row) : Mat := limM (limM (oR n c m) x 0 (2 * k + 1)) 0 x (-(2 * k) + 1)
/-- The draft of a zone with a clock set to a number. -/
def rsM (n m x : Nat) (k : Int) (c : Row) : Mat := limM (limM (freeK x (n + 1) (oR n c m)) x 0 (2 * k + 1)) 0 x (-(2 * k) + 1)
theorem zc_rightM {n m : Nat} {c : Row} (hm : m = (n + 1) * (n + 1)) (h : ZC n m c) : RightM n (oR n c m) := by
  rcases h with rfl | ⟨p, hp⟩
  · exact right_zero (m := m) fun i j hi hj => by rw [oR_zero]; exact .inl rfl
  · exact hp.rightM hm
theorem zc_exM {n m x : Nat} {k : Int} {c : Row} (hm : m = (n + 1) * (n + 1)) (h : ZC n m c) (hx : x ≤ n) (k0 : 0 ≤ k) (k1 : k ≤ 1048576) : RightM n (exM n m x k c) :=
  ((zc_rightM hm h).lim hx (by omega) (by omega) (by omega)).lim (by omega) hx (by omega) (by omega)
theorem zc_rsM {n m x : Nat} {k : Int} {c : Row} (hn : n ≤ 8) (hm : m = (n + 1) * (n + 1)) (h : ZC n m c) (x1 : 1 ≤ x) (hx : x ≤ n) (k0 : 0 ≤ k) (k1 : k ≤ 1048576) : RightM n (rsM n m x k c) := by
  obtain ⟨_, _, _, hR, _⟩ := free_row hn hm h x1 hx
  exact (hR.lim hx (by omega) (by omega) (by omega)).lim (by omega) hx (by omega) (by omega)
theorem rs_empty {n m x : Nat} {k : Int} (hm : m = (n + 1) * (n + 1)) (x1 : 1 ≤ x) : zoneR n (drf n m (rowsL n (rsM n m x k (fun _ => 0)) (n + 1))) = some fun _ => 0 := by
  refine pm_hollow' hm ?_
  have e : freeK x (n + 1) (oR n (fun _ => 0) m) 0 0 = 0 := by rw [oR_zero, freeK_at x1, if_neg (by omega), if_neg (by omega)]
  unfold rsM limM upd
  rw [if_neg (by omega), if_neg (by omega), e]
  exact Int.le_refl _
theorem ex_empty {n m x : Nat} {k : Int} (hm : m = (n + 1) * (n + 1)) (x1 : 1 ≤ x) : zoneR n (drf n m (rowsL n (exM n m x k (fun _ => 0)) (n + 1))) = some fun _ => 0 := by
  refine pm_hollow' hm ?_
  unfold exM limM upd
  rw [if_neg (by omega), if_neg (by omega), oR_zero]
  exact Int.le_refl _
theorem nm_of {k : Int} (k0 : 0 ≤ k) (k1 : k ≤ 1048576) : Nm k (2 * k + 1) (-(2 * k) + 1) := ⟨k0, k1, rfl, rfl⟩
theorem reset_tells {n m x : Nat} {k : Int} {c : Row} (hn : n ≤ 8) (hm : m = (n + 1) * (n + 1)) (h : ZC n m c) (x1 : 1 ≤ x) (hx : x ≤ n) (k0 : 0 ≤ k) (k1 : k ≤ 1048576) (w : World) (b : Nat) (hz : ZoneAt w b n c) :
    OTells w n 30 #[.pointer (some ⟨b, 0, none⟩), .int .i64 x, .int .i64 k] (zoneR n (drf n m (rowsL n (rsM n m x k c) (n + 1)))) := by
  refine tells_of hm (zc_rsM hn hm h x1 hx k0 k1) rfl ?_
  have := reset_any b n x k c w hn hz (zc_32 hm h) hx (setE_ok x1 hx k0 k1) k0 k1
  rw [← hm] at this
  exact this
/-- From where a zone is come to, as cells. -/
theorem unset_row {n m x : Nat} {k : Int} {c : Row} (hn : n ≤ 8) (hm : m = (n + 1) * (n + 1)) (h : ZC n m c) (x1 : 1 ≤ x) (hx : x ≤ n) (k0 : 0 ≤ k) (k1 : k ≤ 1048576) :
    ∃ o', (∀ w b, ZoneAt w b n c → OTells w n 32 #[.pointer (some ⟨b, 0, none⟩), .int .i64 x, .int .i64 k] o') ∧ (zoneR n (drf n m (rowsL n (exM n m x k c) (n + 1))) = none → o' = none) ∧ ∀ d, zoneR n (drf n m (rowsL n (exM n m x k c) (n + 1))) = some d → zoneR n (drf n m (rowsL n (freeK x (n + 1) (oR n d m)) (n + 1))) = o' := by
  cases e : zoneR n (drf n m (rowsL n (exM n m x k c) (n + 1))) with
  | none => exact ⟨none, fun w b hz => unset_tells hn hm (zc_32 hm h) x1 hx k0 k1 (zc_exM hm h hx k0 k1) e (fun _ => rfl) (fun d hd => (by cases hd)) w b hz, fun _ => rfl, fun d hd => (by cases hd)⟩
  | some d =>
    have zd : ZC n m d := zc_drf hn hm (right_rows hm (zc_exM hm h hx k0 k1)) e
    obtain ⟨c1, z1, _, hR, hz1, _, _⟩ := free_row hn hm zd x1 hx
    refine ⟨some c1, fun w b hz => unset_tells hn hm (zc_32 hm h) x1 hx k0 k1 (zc_exM hm h hx k0 k1) e (fun e' => by cases e') (fun d' hd => ?_) w b hz, fun e' => (by cases e'), fun d' hd => ?_⟩
    · cases hd; exact ⟨hR, hz1⟩
    · cases hd; exact hz1
end Go.Proofs.YteifpplemohdcaaGreat
