/-
  The document's free and shift; its Free, Reset, Copy of a zone that is not empty, as the zones of matrices.
-/
import Derived.Test.YtfhfdpapppgfpaaGreatDoorZf
import Derived.Test.YtfhfdpapppgfpaaGreatDoorZk
import Derived.Deep.CutBlock
import Derived.Deep.DeepCutAuto
import Derived.Deep.LoopGhost
import Derived.Test.YtfhfdpapppgfpaaGreatDoorIaz
import Derived.Test.YtfhfdpapppgfpaaGreatDoorZe
namespace Go.Proofs.YtfhfdpapppgfpaaGreatDoor
open Go.RowKit
set_option linter.unusedVariables false
set_option maxRecDepth 100000
def rfS (x i : Nat) (s : Mat) : Mat := upd (upd s x i opn) i x (upd s x i opn i 0)
def rfK (x : Nat) : Nat → Mat → Mat
  | 0, s => s
  | K + 1, s => rfS x K (rfK x K s)
def rfM (n x : Nat) (s : Mat) : Mat := upd (upd (rfK x (n + 1) s) 0 x 1) x x 1
set_option maxHeartbeats 4000000 in
theorem rfree_any (d g n m x : Nat) (s : Mat) (w : World) (hn : n ≤ 8) (hx : x ≤ n) (hm : m = (n + 1) * (n + 1)) (h : RC w d g n m s) :
    Calls Tryz.prog 46 #[.pointer (some ⟨d, 0, none⟩), .int .i64 x] w fun e w' => e = .returned (.tuple #[]) ∧ RC w' d g n m (rfM n x s) ∧ Below g w w' := by
  have HP : Hid (∀ (i j : Nat) (v : Int) (s : Mat) w, i ≤ n → j ≤ n → RC w d g n m s → _) := fun i j v s w hi hj hr => put_any d g n m i j v s w hn hi hj hm hr
  have HA : Hid (∀ (i j : Nat) (s : Mat) w, i ≤ n → j ≤ n → RC w d g n m s → _) := fun i j s w hi hj hr => rat_any d g n m i j s w hn hi hj hm hr
  have R0 := hideD h
  clear h hm
  go_enter Tryz.func46, Tryz.ntmps46
  go_wp2_with fail
  go_loopg [4] (n + 1) (fun g' u wr => ∃ (K : Nat), K ≤ n + 1 ∧ g' = n + 1 - K ∧ u = .int .i64 (K : Int) ∧ Hid (RC wr d g n m (rfK x K s)) ∧ Hid (Below g w wr))
  case atStart => exact ⟨0, by omega, rfl, rfl, R0, Below.refl _ _⟩
  case round =>
    obtain ⟨K, hK, rfl, rfl, hR, hB⟩ := hrel
    clear R0
    have c0 : wr.cell? ⟨d, 0, none⟩ = some (.int .i64 (n : Int)) := by obtain ⟨_, h0, _⟩ := hR.out; exact h0
    by_cases ck : K ≤ n
    · have k1 : (K : Int) ≤ (n : Int) := by omega
      have H1 := hideD (HP.out x K opn _ wr hx ck hR.out)
      clear hR
      go_wp2_with fail
      refine H1.out.mono ?_
      rintro e w2 ⟨rfl, hR2, hb2, -⟩
      have B2 := hideD (hB.out.trans hb2)
      have H2 := hideD (HA.out K 0 _ w2 ck (by omega) hR2)
      have R2 := hideD hR2
      clear H1 hB hb2 hR2 c0
      go_wp2_with fail
      refine H2.out.mono ?_
      rintro e w3 ⟨rfl, kd, rfl⟩
      have H3 := hideD (HP.out K x (upd (rfK x K s) x K opn K 0) _ (w2.drewN kd) ck hx (R2.out.drewN kd))
      have B3 := hideD (below_drewN B2.out kd)
      clear H2 R2 B2
      generalize w2.drewN kd = w3 at *
      go_wp2_with fail
      refine H3.out.mono ?_
      rintro e w4 ⟨rfl, hR4, hb4, -⟩
      have R4 : Hid (RC w4 d g n m (rfK x (K + 1) s)) := hR4
      have B4 := hideD (B3.out.trans hb4)
      clear H3 hR4 hb4 B3
      go_wp2_with fail
      go_roundg (n + 1 - (K + 1))
      case measure => omega
      case rel => exact ⟨K + 1, by omega, rfl, by go_num, R4, B4⟩
    · have k1 : ¬ ((K : Int) ≤ (n : Int)) := by omega
      obtain rfl : K = n + 1 := by omega
      have H1 := hideD (HP.out 0 x 1 _ wr (by omega) hx hR.out)
      clear hR
      go_wp2_with fail
      refine H1.out.mono ?_
      rintro e w2 ⟨rfl, hR2, hb2, -⟩
      have H2 := hideD (HP.out x x 1 _ w2 hx hx hR2)
      have B2 := hideD (hB.out.trans hb2)
      clear H1 hR2 hb2 hB c0
      go_wp2_with fail
      refine H2.out.mono ?_
      rintro e w3 ⟨rfl, hR3, hb3, -⟩
      have R3 := hideD hR3
      have B3 := hideD (B2.out.trans hb3)
      clear H2 hR3 hb3 B2
      go_wp2_with fail
      go_end0
      exact ⟨rfl, R3.out, B3.out⟩
/-- A bound of a number that is so much more. -/
def shB (a k : Int) : Int := if a = opn then opn else a + 2 * k
theorem shift_any (a k : Int) (w : World) (ha : -2305843009213693952 ≤ a) (hb : a ≤ 4611686018427387904) (k0 : -1048576 ≤ k) (k1 : k ≤ 1048576) :
    Calls Tryz.prog 37 #[.int .i64 a, .int .i64 k] w fun e w' => e = .returned (.int .i64 (shB a k)) ∧ w' = w := by
  unfold shB
  by_cases e : a = opn
  · rw [if_pos e]
    subst e
    go_enter Tryz.func37, Tryz.ntmps37
    go_wp2_with fail
    go_ret
    exact ⟨rfl, rfl⟩
  · rw [if_neg e]
    have e' : ¬ a = 4611686018427387904 := e
    have w1 : wrap64 (2 * k) = 2 * k := by unfold wrap64; omega
    have w2 : wrap64 (a + 2 * k) = a + 2 * k := by unfold wrap64; omega
    clear e
    go_enter Tryz.func37, Tryz.ntmps37
    go_wp2_with fail
    go_ret
    exact ⟨rfl, rfl⟩
end Go.Proofs.YtfhfdpapppgfpaaGreatDoor

/-
  The document's isClock, Copy and Free.
-/
namespace Go.Proofs.YtfhfdpapppgfpaaGreatDoor
open Go.RowKit
set_option linter.unusedVariables false
set_option maxRecDepth 100000
theorem isClock_any {w : World} {B r n : Nat} {l : List Int} (x : Int) (h : RZone w B r n l) :
    Calls Tryz.prog 48 #[.pointer (some ⟨r, 0, none⟩), .int .i64 x] w fun e w' => e = .returned (.bool (clockB n x)) ∧ w' = w := by
  have HD := hideD (rdim_any h)
  by_cases x1 : 1 ≤ x
  · by_cases xn : x ≤ (n : Int)
    · have e : clockB n x = true := decide_eq_true (by omega)
      rw [e]
      clear e
      go_enter Tryz.func48, Tryz.ntmps48
      go_wp2_with fail
      refine HD.out.mono ?_
      rintro e w1 ⟨rfl, rfl⟩
      go_wp2_with fail
      go_ret
      exact ⟨rfl, rfl⟩
    · have e : clockB n x = false := decide_eq_false (by omega)
      rw [e]
      clear e
      go_enter Tryz.func48, Tryz.ntmps48
      go_wp2_with fail
      refine HD.out.mono ?_
      rintro e w1 ⟨rfl, rfl⟩
      go_wp2_with fail
      go_ret
      exact ⟨by simp; omega, rfl⟩
  · have e : clockB n x = false := decide_eq_false (by omega)
    rw [e]
    clear e HD
    go_enter Tryz.func48, Tryz.ntmps48
    go_wp2_with fail
    go_ret
    exact ⟨by simp, rfl⟩
/-- The document's Copy of a zone that is not empty: the matrix that it shuts. -/
def rcpM (n t f : Nat) (s : Mat) : Mat := if t = f then s else upd (upd (rfM n t s) t f 1) f t 1
set_option maxHeartbeats 4000000 in
theorem rcopy_full (r n m B t f : Nat) (c : Row) (p : Mat) (w : World) (hn : n ≤ 8) (hm : m = (n + 1) * (n + 1)) (h : RZone w B r n (listOf c m)) (hp : FullC n m p c) (h32 : C32 c) (t1 : 1 ≤ t) (tn : t ≤ n) (f1 : 1 ≤ f) (fn : f ≤ n)
    (s2 : Ok n (rcpM n t f (rowMat n (listOf c m)))) (s3 : ∀ j, j ≤ n → rcpM n t f (rowMat n (listOf c m)) 0 j ≤ 1) :
    Calls Tryz.prog 15 #[.pointer (some ⟨r, 0, none⟩), .int .i64 t, .int .i64 f] w fun e w' => RefOut w' n m e (zoneR n (rcpM n t f (rowMat n (listOf c m)))) ∧ Below w.heap.size w w' := by
  have mp : 0 < m := by rw [hm]; exact Nat.mul_pos (by omega) (by omega)
  have HE := rempty_is h mp
  rw [hp.zero hm] at HE
  have HE := hideD HE
  have I1 := hideD (isClock_any t h)
  have I2 := hideD (isClock_any f h)
  rw [show clockB n (t : Int) = true from decide_eq_true (by omega)] at I1
  rw [show clockB n (f : Int) = true from decide_eq_true (by omega)] at I2
  have HO := hideD (open_any r n m B (listOf c m) w hn hm (listOf_len c m) (fun j hj => by rw [listOf_get c m j hj]; exact h32 j) h)
  have HS : Hid (∀ d g w, RC w d g n m (rcpM n t f (rowMat n (listOf c m))) → _) := fun d g w hr => shut_any d g n m _ w hn hm hr s2 s3
  have HP : Hid (∀ (d g i j : Nat) (v : Int) (s : Mat) w, i ≤ n → j ≤ n → RC w d g n m s → _) := fun d g i j v s w hi hj hr => put_any d g n m i j v s w hn hi hj hm hr
  have HR : Hid (∀ (d g : Nat) (s : Mat) w, RC w d g n m s → _) := fun d g s w hr => rfree_any d g n m t s w hn tn hm hr
  have HF : Hid (∀ w' e, ShutOut w' n m e (rcpM n t f (rowMat n (listOf c m))) → RefOut w' n m e (zoneR n (rcpM n t f (rowMat n (listOf c m))))) := fun w' e h => h
  generalize rowMat n (listOf c m) = r0 at *
  clear h hp s2 s3 h32 hm
  go_enter Tryz.func15, Tryz.ntmps15
  go_wp2_with fail
  refine I1.out.mono ?_
  rintro e w1 ⟨rfl, hw⟩
  subst hw
  clear I1
  go_wp2_with fail
  refine I2.out.mono ?_
  rintro e w1 ⟨rfl, hw⟩
  subst hw
  clear I2
  go_wp2_with fail
  refine HE.out.mono ?_
  rintro e w1 ⟨rfl, hw⟩
  subst hw
  clear HE
  go_wp2_with fail
  refine HO.out.mono ?_
  rintro e w2 ⟨⟨d, g, rfl, hd, hg, hR⟩, hb⟩
  have R2 := hideD hR
  have B2 := hideD hb
  clear hb hR HO
  by_cases tf : t = f
  · have e1 : ((t : Int) != (f : Int)) = false := by simp; omega
    have HSK := hideD (HS.out d g w2 (by unfold rcpM; rw [if_pos tf]; exact R2.out))
    clear tf HP HR HS
    go_wp2_with fail
    refine HSK.out.mono ?_
    rintro e w3 ⟨⟨p', k', rfl, ho⟩, hb⟩
    have FIN := hideD (HF.out _ _ ho.out)
    have B3 := hideD (B2.out.trans (hb.out.mono hg))
    clear ho hb HSK
    go_wp2_with fail
    exact bodyPost_ret (v := .tuple #[.pointer p', .int .i64 k']) (by simp [results, Tryz.results15, go_sem]) rfl ⟨FIN.out, B3.out⟩
  · have e1 : ((t : Int) != (f : Int)) = true := by simp; omega
    have H1 := hideD (HR.out d g _ w2 R2.out)
    have TF := hideD tf
    clear tf
    go_wp2_with fail
    refine H1.out.mono ?_
    rintro e w3 ⟨rfl, hR3, hb3⟩
    have B3 := hideD (B2.out.trans (hb3.mono hg))
    have H2 := hideD (HP.out d g t f 1 _ w3 tn fn hR3)
    clear H1 hR3 hb3 B2 R2 HR
    go_wp2_with fail
    refine H2.out.mono ?_
    rintro e w4 ⟨rfl, hR4, hb4, -⟩
    have B4 := hideD (B3.out.trans (hb4.mono hg))
    have H3 := hideD (HP.out d g f t 1 _ w4 fn tn hR4)
    clear H2 hR4 hb4 B3 HP
    go_wp2_with fail
    refine H3.out.mono ?_
    rintro e w5 ⟨rfl, hR5, hb5, -⟩
    have B5 := hideD (B4.out.trans (hb5.mono hg))
    have HSK := hideD (HS.out d g w5 (by unfold rcpM; rw [if_neg TF.out]; exact hR5))
    clear H3 hR5 hb5 B4 HS
    go_wp2_with fail
    refine HSK.out.mono ?_
    rintro e w6 ⟨⟨p', k', rfl, ho⟩, hb⟩
    have FIN := hideD (HF.out _ _ ho.out)
    have B6 := hideD (B5.out.trans (hb.out.mono hg))
    clear ho hb HSK
    go_wp2_with fail
    exact bodyPost_ret (v := .tuple #[.pointer p', .int .i64 k']) (by simp [results, Tryz.results15, go_sem]) rfl ⟨FIN.out, B6.out⟩
/-- The document's Free, clock by clock. -/
def rfL (n : Nat) (l : List Int) : Nat → Mat → Mat
  | 0, s => s
  | K + 1, s => rfM n (l.getD K 0).toNat (rfL n l K s)
set_option maxHeartbeats 4000000 in
theorem rfreeZ_full (r n m B q cap : Nat) (ad : Option Addr) (l : List Int) (c : Row) (p : Mat) (w : World) (hn : n ≤ 8) (hm : m = (n + 1) * (n + 1)) (h : RZone w B r n (listOf c m)) (hp : FullC n m p c) (h32 : C32 c) (hl : l.length = q) (hv : IntsAt w (.slice ad q cap) l) (hq : q ≤ 9223372036854775807) (ha : hasA n l q = true)
    (s2 : Ok n (rfL n l q (rowMat n (listOf c m)))) (s3 : ∀ j, j ≤ n → rfL n l q (rowMat n (listOf c m)) 0 j ≤ 1) :
    Calls Tryz.prog 13 #[.pointer (some ⟨r, 0, none⟩), .slice ad q cap] w fun e w' => RefOut w' n m e (zoneR n (rfL n l q (rowMat n (listOf c m)))) ∧ Below w.heap.size w w' := by
  have mp : 0 < m := by rw [hm]; exact Nat.mul_pos (by omega) (by omega)
  have HE := rempty_is h mp
  rw [hp.zero hm] at HE
  have HE := hideD HE
  have AT : Hid (∀ k, k < q → 1 ≤ l.getD k 0 ∧ l.getD k 0 ≤ n) := fun k hk => hasA_at ha k hk
  have HI : Hid (∀ k, k < q → Calls Tryz.prog 48 #[.pointer (some ⟨r, 0, none⟩), .int .i64 (l.getD k 0)] w fun e w' => e = .returned (.bool true) ∧ w' = w) := fun k hk => by
    have := isClock_any (l.getD k 0) h
    rw [show clockB n (l.getD k 0) = true from decide_eq_true (by have := AT.out k hk; omega)] at this
    exact this
  have HC : Hid (∀ w', Below w.heap.size w w' → ∀ k, k < q → ∃ cb off, ad = some ⟨cb, off, none⟩ ∧ w'.cell? ⟨cb, off + k, none⟩ = some (.int .i64 (l.getD k 0))) := fun w' hb k hk => (hv.past hb).at hl k hk
  have HO := hideD (open_any r n m B (listOf c m) w hn hm (listOf_len c m) (fun j hj => by rw [listOf_get c m j hj]; exact h32 j) h)
  have HS : Hid (∀ d g w, RC w d g n m (rfL n l q (rowMat n (listOf c m))) → _) := fun d g w hr => shut_any d g n m _ w hn hm hr s2 s3
  have HR : Hid (∀ (d g x : Nat) (s : Mat) w, x ≤ n → RC w d g n m s → _) := fun d g x s w hx hr => rfree_any d g n m x s w hn hx hm hr
  have HF : Hid (∀ w' e, ShutOut w' n m e (rfL n l q (rowMat n (listOf c m))) → RefOut w' n m e (zoneR n (rfL n l q (rowMat n (listOf c m))))) := fun w' e h => h
  generalize rowMat n (listOf c m) = r0 at *
  clear h hp s2 s3 h32 hm hv hl ha
  have q1 : (q : Int) ≤ 9223372036854775807 := by omega
  go_enter Tryz.func13, Tryz.ntmps13
  go_wp2_with fail
  go_loopg [6] q (fun g' u wr => ∃ (K : Nat), K ≤ q ∧ g' = q - K ∧ u = .int .i64 (K : Int) ∧ wr = w)
  case atStart => exact ⟨0, by omega, rfl, rfl, rfl⟩
  case round =>
    obtain ⟨K, hK, rfl, rfl, rfl⟩ := hrel
    by_cases ck : K < q
    · have k0 : (0 : Int) ≤ (K : Int) := by omega
      have k1 : (K : Int) < (q : Int) := by omega
      obtain ⟨cb, off, rfl, a1⟩ := HC.out wr (Below.refl _ _) K ck
      have H1 := hideD (HI.out K ck)
      go_wp2_with fail
      refine H1.out.mono ?_
      rintro e w1 ⟨rfl, hw⟩
      subst hw
      clear H1 a1
      go_wp2_with fail
      go_roundg (q - (K + 1))
      case measure => omega
      case rel => exact ⟨K + 1, by omega, rfl, by go_num, rfl⟩
    · have k1 : ¬ ((K : Int) < (q : Int)) := by omega
      clear HI
      go_wp2_with fail
      refine HE.out.mono ?_
      rintro e w1 ⟨rfl, hw⟩
      subst hw
      clear HE
      go_wp2_with fail
      refine HO.out.mono ?_
      rintro e w2 ⟨⟨d, g, rfl, hd, hg, hR⟩, hb⟩
      have R2 : Hid (RC w2 d g n m (rfL n l 0 r0)) := hR
      have B2 := hideD hb
      clear hb hR HO
      go_wp2_with fail
      go_loopg [8] q (fun g' u w9 => ∃ (K : Nat), K ≤ q ∧ g' = q - K ∧ u = .int .i64 (K : Int) ∧ Hid (RC w9 d g n m (rfL n l K r0)) ∧ Hid (Below w1.heap.size w1 w9))
      case atStart => exact ⟨0, by omega, rfl, rfl, R2, B2⟩
      case round =>
        obtain ⟨K2, hK2, rfl, rfl, hR, hB⟩ := hrel
        clear R2 B2
        by_cases ck2 : K2 < q
        · have k3 : (0 : Int) ≤ (K2 : Int) := by omega
          have k4 : (K2 : Int) < (q : Int) := by omega
          obtain ⟨cb, off, rfl, a1⟩ := HC.out wr hB.out K2 ck2
          have at1 := AT.out K2 ck2
          obtain ⟨x, hx⟩ := Int.eq_ofNat_of_zero_le (show 0 ≤ l.getD K2 0 by omega)
          have nx : Hid (rfL n l (K2 + 1) r0 = rfM n x (rfL n l K2 r0)) := by show _ = _; rw [rfL, hx]; rfl
          rw [hx] at a1 at1
          have H1 := hideD (HR.out d g x _ wr (by omega) hR.out)
          clear hx at1 hR
          go_wp2_with fail
          refine H1.out.mono ?_
          rintro e w3 ⟨rfl, hR3, hb3⟩
          have R3 : Hid (RC w3 d g n m (rfL n l (K2 + 1) r0)) := by show RC _ _ _ _ _ _; rw [nx.out]; exact hR3
          have B3 := hideD (hB.out.trans (hb3.mono hg))
          clear H1 hR3 hb3 hB nx a1
          go_wp2_with fail
          go_roundg (q - (K2 + 1))
          case measure => omega
          case rel => exact ⟨K2 + 1, by omega, rfl, by go_num, R3, B3⟩
        · have k4 : ¬ ((K2 : Int) < (q : Int)) := by omega
          have HSK := hideD (HS.out d g wr (by rw [show q = K2 by omega]; exact hR.out))
          clear hR HS HR HC AT
          go_wp2_with fail
          refine HSK.out.mono ?_
          rintro e w3 ⟨⟨p', k', rfl, ho⟩, hb⟩
          have FIN := hideD (HF.out _ _ ho.out)
          have B3 := hideD (hB.out.trans (hb.out.mono hg))
          clear ho hb HSK
          go_wp2_with fail
          exact bodyPost_ret (v := .tuple #[.pointer p', .int .i64 k']) (by simp [results, Tryz.results13, go_sem]) rfl ⟨FIN.out, B3.out⟩
end Go.Proofs.YtfhfdpapppgfpaaGreatDoor

/-
  The document's set, Reset and Unset.
-/
namespace Go.Proofs.YtfhfdpapppgfpaaGreatDoor
open Go.RowKit
set_option linter.unusedVariables false
set_option maxRecDepth 100000
theorem rset_any {w : World} {B r n : Nat} {l : List Int} (x k : Int) (h : RZone w B r n l) :
    Calls Tryz.prog 31 #[.pointer (some ⟨r, 0, none⟩), .int .i64 x, .int .i64 k] w fun e w' => e = .returned (.int .i64 (setE n x k)) ∧ w' = w := by
  have HI := hideD (isClock_any x h)
  cases hx : clockB n x with
  | false =>
    have e : setE n x k = 12 := by unfold setE; rw [hx]; rfl
    rw [e]
    rw [hx] at HI
    clear e hx
    go_enter Tryz.func31, Tryz.ntmps31
    go_wp2_with fail
    refine HI.out.mono ?_
    rintro e w1 ⟨rfl, rfl⟩
    go_wp2_with fail
    go_ret
    exact ⟨rfl, rfl⟩
  | true =>
    rw [hx] at HI
    by_cases k0 : k < 0
    · have e : setE n x k = 13 := by unfold setE; rw [if_pos hx, if_neg (by omega)]
      rw [e]
      clear e hx
      go_enter Tryz.func31, Tryz.ntmps31
      go_wp2_with fail
      refine HI.out.mono ?_
      rintro e w1 ⟨rfl, rfl⟩
      go_wp2_with fail
      go_ret
      exact ⟨rfl, rfl⟩
    · by_cases k1 : 1048576 < k
      · have e : setE n x k = 13 := by unfold setE; rw [if_pos hx, if_neg (by omega)]
        rw [e]
        clear e hx
        go_enter Tryz.func31, Tryz.ntmps31
        go_wp2_with fail
        refine HI.out.mono ?_
        rintro e w1 ⟨rfl, rfl⟩
        go_wp2_with fail
        go_ret
        exact ⟨rfl, rfl⟩
      · have e : setE n x k = 0 := by unfold setE; rw [if_pos hx, if_pos (by omega)]
        rw [e]
        clear e hx
        go_enter Tryz.func31, Tryz.ntmps31
        go_wp2_with fail
        refine HI.out.mono ?_
        rintro e w1 ⟨rfl, rfl⟩
        go_wp2_with fail
        go_ret
        exact ⟨rfl, rfl⟩
def rrS (x : Nat) (k : Int) (j : Nat) (s : Mat) : Mat := upd (upd s x j (shB (s 0 j) k)) j x (shB (upd s x j (shB (s 0 j) k) j 0) (-k))
def rrK (x : Nat) (k : Int) : Nat → Mat → Mat
  | 0, s => s
  | K + 1, s => rrS x k K (rrK x k K s)
def rrM (n x : Nat) (k : Int) (s : Mat) : Mat := upd (upd (upd (rrK x k (n + 1) s) x 0 (2 * k + 1)) 0 x (-2 * k + 1)) x x 1
theorem shB_fin {C a k : Int} (h : Fin' C a) (k0 : -1048576 ≤ k) (k1 : k ≤ 1048576) : Fin' (C + 2097152) (shB a k) := by
  unfold shB Fin' at *
  split
  · exact .inl rfl
  · rename_i e
    rcases h with h | h
    · exact absurd h e
    · exact .inr (by omega)
theorem upd_fin {C v : Int} {s : Mat} {i j : Nat} (h : ∀ a c, Fin' C (s a c)) (hv : Fin' C v) (a c : Nat) : Fin' C (upd s i j v a c) := by
  unfold upd; split
  · exact hv
  · exact h a c
theorem Fin'.up {C C' a : Int} (h : Fin' C a) (hc : C ≤ C') : Fin' C' a := by
  unfold Fin' at *; omega
theorem rrK_fin {C k : Int} {x : Nat} {s : Mat} (h : ∀ a c, Fin' C (s a c)) (k0 : -1048576 ≤ k) (k1 : k ≤ 1048576) : ∀ (K a c : Nat), Fin' (C + (K : Int) * 4194304) (rrK x k K s a c)
  | 0, a, c => (h a c).up (by omega)
  | K + 1, a, c => by
    have ih := rrK_fin (x := x) h k0 k1 K
    have h1 : ∀ a c, Fin' (C + (K : Int) * 4194304 + 2097152) (upd (rrK x k K s) x K (shB (rrK x k K s 0 K) k) a c) := upd_fin (fun a c => (ih a c).up (by omega)) (shB_fin (ih 0 K) k0 k1)
    have h2 : Fin' (C + (K : Int) * 4194304 + 2097152 + 2097152) (shB (upd (rrK x k K s) x K (shB (rrK x k K s 0 K) k) K 0) (-k)) := shB_fin (h1 K 0) (by omega) (by omega)
    have h3 := upd_fin (i := K) (j := x) (fun a c => (h1 a c).up (show C + (K : Int) * 4194304 + 2097152 ≤ C + (K : Int) * 4194304 + 2097152 + 2097152 by omega)) h2 a c
    exact h3.up (by omega)
set_option maxHeartbeats 4000000 in
theorem rreset_full (r n m B x : Nat) (k : Int) (c : Row) (p : Mat) (w : World) (hn : n ≤ 8) (hm : m = (n + 1) * (n + 1)) (h : RZone w B r n (listOf c m)) (hp : FullC n m p c) (h32 : C32 c) (x1 : 1 ≤ x) (xn : x ≤ n) (k0 : 0 ≤ k) (k1 : k ≤ 1048576)
    (sf : ∀ a c', Fin' 536870913 (rowMat n (listOf c m) a c')) (s2 : Ok n (rrM n x k (rowMat n (listOf c m)))) (s3 : ∀ j, j ≤ n → rrM n x k (rowMat n (listOf c m)) 0 j ≤ 1) :
    Calls Tryz.prog 8 #[.pointer (some ⟨r, 0, none⟩), .int .i64 x, .int .i64 k] w fun e w' => RefOut w' n m e (zoneR n (rrM n x k (rowMat n (listOf c m)))) ∧ Below w.heap.size w w' := by
  have mp : 0 < m := by rw [hm]; exact Nat.mul_pos (by omega) (by omega)
  have HE := rempty_is h mp
  rw [hp.zero hm] at HE
  have HE := hideD HE
  have H0 := hideD (rset_any x k h)
  rw [show setE n (x : Int) k = 0 by unfold setE; rw [if_pos (show clockB n x = true from decide_eq_true (by omega)), if_pos ⟨k0, k1⟩]] at H0
  have HO := hideD (open_any r n m B (listOf c m) w hn hm (listOf_len c m) (fun j hj => by rw [listOf_get c m j hj]; exact h32 j) h)
  have HS : Hid (∀ d g w, RC w d g n m (rrM n x k (rowMat n (listOf c m))) → _) := fun d g w hr => shut_any d g n m _ w hn hm hr s2 s3
  have HP : Hid (∀ (d g i j : Nat) (v : Int) (s : Mat) w, i ≤ n → j ≤ n → RC w d g n m s → _) := fun d g i j v s w hi hj hr => put_any d g n m i j v s w hn hi hj hm hr
  have HA : Hid (∀ (d g i j : Nat) (s : Mat) w, i ≤ n → j ≤ n → RC w d g n m s → _) := fun d g i j s w hi hj hr => rat_any d g n m i j s w hn hi hj hm hr
  have HF : Hid (∀ w' e, ShutOut w' n m e (rrM n x k (rowMat n (listOf c m))) → RefOut w' n m e (zoneR n (rrM n x k (rowMat n (listOf c m))))) := fun w' e h => h
  generalize rowMat n (listOf c m) = r0 at *
  have FK : Hid (∀ K, K ≤ 9 → ∀ a c', Fin' 600000000 (rrK x k K r0 a c')) := fun K hK a c' => (rrK_fin sf (by omega) k1 K a c').up (by omega)
  have HSh : Hid (∀ (a q : Int) w, Fin' 610000000 a → -1048576 ≤ q → q ≤ 1048576 → _) := fun a q w ha q0 q1 => shift_any a q w (by unfold Fin' opn at ha; omega) (by unfold Fin' opn at ha; omega) q0 q1
  clear h hp s2 s3 h32 hm sf
  have wk : wrap64 (-k) = -k := by unfold wrap64; omega
  have w1 : wrap64 (2 * k) = 2 * k := by unfold wrap64; omega
  have w2 : wrap64 (2 * k + 1) = 2 * k + 1 := by unfold wrap64; omega
  have w3 : wrap64 (-2 * k) = -2 * k := by unfold wrap64; omega
  have w4 : wrap64 (-2 * k + 1) = -2 * k + 1 := by unfold wrap64; omega
  go_enter Tryz.func8, Tryz.ntmps8
  go_wp2_with fail
  refine H0.out.mono ?_
  rintro e v1 ⟨rfl, hw⟩
  subst hw
  clear H0
  go_wp2_with fail
  refine HE.out.mono ?_
  rintro e v1 ⟨rfl, hw⟩
  subst hw
  clear HE
  go_wp2_with fail
  refine HO.out.mono ?_
  rintro e v2 ⟨⟨d, g, rfl, hd, hg, hR⟩, hb⟩
  have R2 := hideD hR
  have B2 := hideD hb
  clear hb hR HO
  go_wp2_with fail
  go_loopg [10] (n + 1) (fun g' u wr => ∃ (K : Nat), K ≤ n + 1 ∧ g' = n + 1 - K ∧ u = .int .i64 (K : Int) ∧ Hid (RC wr d g n m (rrK x k K r0)) ∧ Hid (Below v1.heap.size v1 wr))
  case atStart => exact ⟨0, by omega, rfl, rfl, R2, B2⟩
  case round =>
    obtain ⟨K, hK, rfl, rfl, hR, hB⟩ := hrel
    clear R2 B2
    have c0 : wr.cell? ⟨d, 0, none⟩ = some (.int .i64 (n : Int)) := by obtain ⟨_, h0, _⟩ := hR.out; exact h0
    by_cases ck : K ≤ n
    · have k3 : (K : Int) ≤ (n : Int) := by omega
      have fa := FK.out K (by omega)
      have H1 := hideD (HA.out d g 0 K _ wr (by omega) ck hR.out)
      have f1 : Hid (Fin' 610000000 (rrK x k K r0 0 K)) := (fa 0 K).up (by omega)
      have f2 : Hid (Fin' 610000000 (upd (rrK x k K r0) x K (shB (rrK x k K r0 0 K) k) K 0)) := upd_fin (fun a c' => (fa a c').up (by omega)) ((shB_fin (fa 0 K) (by omega) k1).up (by omega)) K 0
      have NX : Hid (rrK x k (K + 1) r0 = upd (upd (rrK x k K r0) x K (shB (rrK x k K r0 0 K) k)) K x (shB (upd (rrK x k K r0) x K (shB (rrK x k K r0 0 K) k) K 0) (-k))) := rfl
      clear fa
      go_wp2_with fail
      refine H1.out.mono ?_
      rintro e w5 ⟨rfl, kd, rfl⟩
      have R5 := hideD (hR.out.drewN kd)
      have B5 := hideD (below_drewN hB.out kd)
      have H2 := hideD (HSh.out _ k (wr.drewN kd) f1.out (by omega) k1)
      clear H1 hR hB c0
      generalize wr.drewN kd = w5 at *
      go_wp2_with fail
      refine H2.out.mono ?_
      rintro e w6 ⟨rfl, hw⟩
      subst hw
      have H3 := hideD (HP.out d g x K (shB (rrK x k K r0 0 K) k) _ w6 xn ck R5.out)
      clear H2 R5 f1
      go_wp2_with fail
      refine H3.out.mono ?_
      rintro e w7 ⟨rfl, hR7, hb7, -⟩
      have B7 := hideD (B5.out.trans (hb7.mono hg))
      have R7 := hideD hR7
      have H4 := hideD (HA.out d g K 0 _ w7 ck (by omega) hR7)
      clear H3 hR7 hb7 B5
      go_wp2_with fail
      refine H4.out.mono ?_
      rintro e w8 ⟨rfl, kd, rfl⟩
      have R8 := hideD (R7.out.drewN kd)
      have B8 := hideD (below_drewN B7.out kd)
      have H5 := hideD (HSh.out _ (-k) (w7.drewN kd) f2.out (by omega) (by omega))
      clear H4 R7 B7 f2
      generalize w7.drewN kd = w8 at *
      go_wp2_with fail
      refine H5.out.mono ?_
      rintro e w9 ⟨rfl, hw⟩
      subst hw
      have H6 := hideD (HP.out d g K x (shB (upd (rrK x k K r0) x K (shB (rrK x k K r0 0 K) k) K 0) (-k)) _ w9 ck xn R8.out)
      clear H5 R8
      go_wp2_with fail
      refine H6.out.mono ?_
      rintro e w10 ⟨rfl, hR10, hb10, -⟩
      have R10 : Hid (RC w10 d g n m (rrK x k (K + 1) r0)) := by show RC _ _ _ _ _ _; rw [NX.out]; exact hR10
      have B10 := hideD (B8.out.trans (hb10.mono hg))
      clear H6 hR10 hb10 B8 NX
      go_wp2_with fail
      go_roundg (n + 1 - (K + 1))
      case measure => omega
      case rel => exact ⟨K + 1, by omega, rfl, by go_num, R10, B10⟩
    · have k3 : ¬ ((K : Int) ≤ (n : Int)) := by omega
      obtain rfl : K = n + 1 := by omega
      have H1 := hideD (HP.out d g x 0 (2 * k + 1) _ wr xn (by omega) hR.out)
      clear hR FK HSh HA
      go_wp2_with fail
      refine H1.out.mono ?_
      rintro e w5 ⟨rfl, hR5, hb5, -⟩
      have B5 := hideD (hB.out.trans (hb5.mono hg))
      have H2 := hideD (HP.out d g 0 x (-2 * k + 1) _ w5 (by omega) xn hR5)
      clear H1 hR5 hb5 hB c0
      go_wp2_with fail
      refine H2.out.mono ?_
      rintro e w6 ⟨rfl, hR6, hb6, -⟩
      have B6 := hideD (B5.out.trans (hb6.mono hg))
      have H3 := hideD (HP.out d g x x 1 _ w6 xn xn hR6)
      clear H2 hR6 hb6 B5
      go_wp2_with fail
      refine H3.out.mono ?_
      rintro e w7 ⟨rfl, hR7, hb7, -⟩
      have B7 := hideD (B6.out.trans (hb7.mono hg))
      have HSK := hideD (HS.out d g w7 hR7)
      clear H3 hR7 hb7 B6 HP HS
      go_wp2_with fail
      refine HSK.out.mono ?_
      rintro e w8 ⟨⟨p', k', rfl, ho⟩, hb⟩
      have FIN := hideD (HF.out _ _ ho.out)
      have B8 := hideD (B7.out.trans (hb.out.mono hg))
      clear ho hb HSK
      go_wp2_with fail
      exact bodyPost_ret (v := .tuple #[.pointer p', .int .i64 k']) (by simp [results, Tryz.results8, go_sem]) rfl ⟨FIN.out, B8.out⟩
end Go.Proofs.YtfhfdpapppgfpaaGreatDoor

/-
  The document's Unset.
-/
namespace Go.Proofs.YtfhfdpapppgfpaaGreatDoor
open Go.RowKit
set_option linter.unusedVariables false
set_option maxRecDepth 100000
/-- The document's Unset: the clock is held to be a number .. -/
def ruM (x : Nat) (k : Int) (s : Mat) : Mat := lessM (lessM s x 0 (2 * k + 1)) 0 x (-2 * k + 1)
/-- .. and then it is any. -/
def ruZ (n x : Nat) (k : Int) (s : Mat) : Option Row := match rcl n (n + 1) (ruM x k s) with
  | none => some (fun _ => 0)
  | some q => zoneR n (rfM n x q)
set_option maxHeartbeats 4000000 in
theorem runset_full (r n m B x : Nat) (k : Int) (c : Row) (p : Mat) (w : World) (hn : n ≤ 8) (hm : m = (n + 1) * (n + 1)) (h : RZone w B r n (listOf c m)) (hp : FullC n m p c) (h32 : C32 c) (x1 : 1 ≤ x) (xn : x ≤ n) (k0 : 0 ≤ k) (k1 : k ≤ 1048576)
    (s2 : ∀ q, rcl n (n + 1) (ruM x k (rowMat n (listOf c m))) = some q → Ok n (rfM n x q) ∧ ∀ j, j ≤ n → rfM n x q 0 j ≤ 1) :
    Calls Tryz.prog 11 #[.pointer (some ⟨r, 0, none⟩), .int .i64 x, .int .i64 k] w fun e w' => RefOut w' n m e (ruZ n x k (rowMat n (listOf c m))) ∧ Below w.heap.size w w' := by
  have mp : 0 < m := by rw [hm]; exact Nat.mul_pos (by omega) (by omega)
  have HE := rempty_is h mp
  rw [hp.zero hm] at HE
  have HE := hideD HE
  have H0 := hideD (rset_any x k h)
  rw [show setE n (x : Int) k = 0 by unfold setE; rw [if_pos (show clockB n x = true from decide_eq_true (by omega)), if_pos ⟨k0, k1⟩]] at H0
  have HO := hideD (open_any r n m B (listOf c m) w hn hm (listOf_len c m) (fun j hj => by rw [listOf_get c m j hj]; exact h32 j) h)
  have HL : Hid (∀ (d g i j : Nat) (v : Int) (s : Mat) w, i ≤ n → j ≤ n → RC w d g n m s → _) := fun d g i j v s w hi hj hr => less_any d g n m i j v s w hn hi hj hm hr
  have HC : Hid (∀ (d g : Nat) (s : Mat) w, RC w d g n m s → _) := fun d g s w hr => closed_any d g n m s w hn hm hr
  have HR : Hid (∀ (d g : Nat) (s : Mat) w, RC w d g n m s → _) := fun d g s w hr => rfree_any d g n m x s w hn xn hm hr
  have HD : Hid (∀ w', Below w.heap.size w w' → _) := fun w' hb => rdim_any (h.past hb)
  have HN : Hid (∀ w, _) := fun w => nothing_any n m w hn hm
  have HS : Hid (∀ (d g : Nat) (s : Mat) w, RC w d g n m s → Ok n s → (∀ j, j ≤ n → s 0 j ≤ 1) → _) := fun d g s w hr a b => shut_any d g n m s w hn hm hr a b
  have S2 := hideD s2
  generalize rowMat n (listOf c m) = r0 at *
  clear h hp s2 h32 hm
  have w1 : wrap64 (2 * k) = 2 * k := by unfold wrap64; omega
  have w2 : wrap64 (2 * k + 1) = 2 * k + 1 := by unfold wrap64; omega
  have w3 : wrap64 (-2 * k) = -2 * k := by unfold wrap64; omega
  have w4 : wrap64 (-2 * k + 1) = -2 * k + 1 := by unfold wrap64; omega
  go_enter Tryz.func11, Tryz.ntmps11
  go_wp2_with fail
  refine H0.out.mono ?_
  rintro e v1 ⟨rfl, hw⟩
  subst hw
  clear H0
  go_wp2_with fail
  refine HE.out.mono ?_
  rintro e v1 ⟨rfl, hw⟩
  subst hw
  clear HE
  go_wp2_with fail
  refine HO.out.mono ?_
  rintro e v2 ⟨⟨d, g, rfl, hd, hg, hR⟩, hb⟩
  have B2 := hideD hb
  have H1 := hideD (HL.out d g x 0 (2 * k + 1) _ v2 xn (by omega) hR)
  clear hb hR HO
  go_wp2_with fail
  refine H1.out.mono ?_
  rintro e v3 ⟨rfl, hR3, hb3, -⟩
  have B3 := hideD (B2.out.trans (hb3.mono hg))
  have H2 := hideD (HL.out d g 0 x (-2 * k + 1) _ v3 (by omega) xn hR3)
  clear hb3 hR3 H1 B2
  go_wp2_with fail
  refine H2.out.mono ?_
  rintro e v4 ⟨rfl, hR4, hb4, -⟩
  have B4 := hideD (B3.out.trans (hb4.mono hg))
  have H3 := hideD (HC.out d g (ruM x k r0) v4 hR4)
  clear hb4 hR4 H2 B3 HL HC
  cases ec : rcl n (n + 1) (ruM x k r0) with
  | none =>
    have EZ : Hid (ruZ n x k r0 = some (fun _ => 0)) := by show _ = _; unfold ruZ; rw [ec]
    rw [ec] at H3
    clear ec S2 HS HR
    go_wp2_with fail
    refine H3.out.mono ?_
    rintro e v5 ⟨rfl, hb5, -⟩
    have B5 := hideD (B4.out.trans (hb5.mono hg))
    have H4 := hideD (HD.out v5 B5.out)
    clear hb5 H3 B4 HD
    go_wp2_with fail
    refine H4.out.mono ?_
    rintro e v6 ⟨rfl, hw⟩
    subst hw
    clear H4
    go_wp2_with fail
    refine (HN.out _).mono ?_
    rintro e v7 ⟨⟨b, B', rfl, hz⟩, hb7⟩
    have FIN : Hid (RefOut v7 n m (.returned (.tuple #[.pointer (some ⟨b, 0, none⟩), .int .i64 0])) (ruZ n x k r0)) := ⟨B', by rw [EZ.out]; exact ⟨b, rfl, hz⟩⟩
    have B7 := hideD (B5.out.trans (hb7.mono B5.out.size))
    clear hz hb7 HN B5
    go_wp2_with fail
    exact bodyPost_ret (v := .tuple #[.pointer (some ⟨b, 0, none⟩), .int .i64 0]) (by simp [results, Tryz.results11, go_sem]) rfl ⟨FIN.out, B7.out⟩
  | some q =>
    have EZ : Hid (ruZ n x k r0 = zoneR n (rfM n x q)) := by show _ = _; unfold ruZ; rw [ec]
    have S3 := hideD (S2.out q ec)
    rw [ec] at H3
    clear ec S2 HN HD
    go_wp2_with fail
    refine H3.out.mono ?_
    rintro e v5 ⟨rfl, hb5, -, s, hs, hq⟩
    obtain rfl := hq q rfl
    have B5 := hideD (B4.out.trans (hb5.mono hg))
    have H4 := hideD (HR.out d g q v5 hs)
    clear hb5 hs hq H3 B4 HR
    go_wp2_with fail
    refine H4.out.mono ?_
    rintro e v6 ⟨rfl, hR6, hb6⟩
    have B6 := hideD (B5.out.trans (hb6.mono hg))
    have H5 := hideD (HS.out d g _ v6 hR6 S3.out.1 S3.out.2)
    clear hR6 hb6 H4 B5 HS
    go_wp2_with fail
    refine H5.out.mono ?_
    rintro e v7 ⟨⟨p', k', rfl, ho⟩, hb⟩
    have FIN : Hid (RefOut v7 n m (.returned (.tuple #[.pointer p', .int .i64 k'])) (ruZ n x k r0)) := by show RefOut _ _ _ _ _; rw [EZ.out]; exact ho.out
    have B7 := hideD (B6.out.trans (hb.out.mono hg))
    clear ho hb H5
    go_wp2_with fail
    exact bodyPost_ret (v := .tuple #[.pointer p', .int .i64 k']) (by simp [results, Tryz.results11, go_sem]) rfl ⟨FIN.out, B7.out⟩
end Go.Proofs.YtfhfdpapppgfpaaGreatDoor
