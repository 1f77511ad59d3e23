/-
  What the document's Reset, Unset, Copy, Free and Keep tell of nil, of what is no clock, of the empty zone.
-/
import Derived.Test.YtfhfdpapppgfpaaGreatDoorZo
namespace Go.Proofs.YtfhfdpapppgfpaaGreatDoor
open Go.RowKit
set_option linter.unusedVariables false
set_option maxRecDepth 100000
theorem rset_nil (a b : Value) (w : World) : Calls Tryz.prog 31 #[.pointer none, a, b] w fun e w' => e = .returned (.int .i64 1) ∧ w' = w := by
  go_enter Tryz.func31, Tryz.ntmps31
  go_wp2_with fail
  go_ret
  exact ⟨rfl, rfl⟩
theorem rreset_nil (a b : Value) (w : World) : Calls Tryz.prog 8 #[.pointer none, a, b] w fun e w' => e = errOf 1 ∧ w' = w := by
  have H := hideD (rset_nil a b w)
  go_enter Tryz.func8, Tryz.ntmps8
  go_wp2_with fail
  refine H.out.mono ?_
  rintro e w1 ⟨rfl, rfl⟩
  go_wp2_with fail
  exact bodyPost_ret (v := .tuple #[.pointer none, .int .i64 1]) (by simp [results, Tryz.results8, go_sem]) rfl ⟨rfl, rfl⟩
theorem rreset_err {w : World} {B r n : Nat} {l : List Int} (x k : Int) (h : RZone w B r n l) (hE : setE n x k ≠ 0) :
    Calls Tryz.prog 8 #[.pointer (some ⟨r, 0, none⟩), .int .i64 x, .int .i64 k] w fun e w' => e = errOf (setE n x k) ∧ w' = w := by
  have H := hideD (rset_any x k h)
  generalize setE n x k = E at *
  clear h
  go_enter Tryz.func8, Tryz.ntmps8
  go_wp2_with fail
  refine H.out.mono ?_
  rintro e w1 ⟨rfl, rfl⟩
  go_wp2_with fail
  exact bodyPost_ret (v := .tuple #[.pointer none, .int .i64 E]) (by simp [results, Tryz.results8, go_sem]) rfl ⟨rfl, rfl⟩
theorem rreset_empty (r n m B x : Nat) (k : Int) (c : Row) (w : World) (hn : n ≤ 8) (hm : m = (n + 1) * (n + 1)) (h : RZone w B r n (listOf c m)) (h0 : c 0 = 0) (x1 : 1 ≤ x) (xn : x ≤ n) (k0 : 0 ≤ k) (k1 : k ≤ 1048576) :
    Calls Tryz.prog 8 #[.pointer (some ⟨r, 0, none⟩), .int .i64 x, .int .i64 k] w fun e w' => RefOut w' n m e (some fun _ => 0) ∧ Below w.heap.size w w' := by
  have mp : 0 < m := by rw [hm]; exact Nat.mul_pos (by omega) (by omega)
  have HE := rempty_is h mp
  rw [h0] at HE
  have HE := hideD HE
  have H0 := hideD (rset_any x k h)
  rw [show setE n (x : Int) k = 0 by unfold setE; rw [if_pos (show clockB n x = true from decide_eq_true (by omega)), if_pos ⟨k0, k1⟩]] at H0
  have HD := hideD (rdim_any h)
  have HN := hideD (nothing_any n m w hn hm)
  clear h
  go_enter Tryz.func8, Tryz.ntmps8
  go_wp2_with fail
  refine H0.out.mono ?_
  rintro e w1 ⟨rfl, hw⟩
  subst hw
  go_wp2_with fail
  refine HE.out.mono ?_
  rintro e w2 ⟨rfl, hw⟩
  subst hw
  go_wp2_with fail
  refine HD.out.mono ?_
  rintro e w3 ⟨rfl, hw⟩
  subst hw
  go_wp2_with fail
  refine HN.out.mono ?_
  rintro e w4 ⟨⟨b, B', rfl, hz⟩, hb⟩
  have FIN : Hid (RefOut w4 n m (.returned (.tuple #[.pointer (some ⟨b, 0, none⟩), .int .i64 0])) (some fun _ => 0)) := ⟨B', b, rfl, hz⟩
  have hB := hideD hb
  clear hz hb HN HD HE H0
  go_wp2_with fail
  exact bodyPost_ret (v := .tuple #[.pointer (some ⟨b, 0, none⟩), .int .i64 0]) (by simp [results, Tryz.results8, go_sem]) rfl ⟨FIN.out, hB.out⟩
theorem runset_nil (a b : Value) (w : World) : Calls Tryz.prog 11 #[.pointer none, a, b] w fun e w' => e = errOf 1 ∧ w' = w := by
  have H := hideD (rset_nil a b w)
  go_enter Tryz.func11, Tryz.ntmps11
  go_wp2_with fail
  refine H.out.mono ?_
  rintro e w1 ⟨rfl, rfl⟩
  go_wp2_with fail
  exact bodyPost_ret (v := .tuple #[.pointer none, .int .i64 1]) (by simp [results, Tryz.results11, go_sem]) rfl ⟨rfl, rfl⟩
theorem runset_err {w : World} {B r n : Nat} {l : List Int} (x k : Int) (h : RZone w B r n l) (hE : setE n x k ≠ 0) :
    Calls Tryz.prog 11 #[.pointer (some ⟨r, 0, none⟩), .int .i64 x, .int .i64 k] w fun e w' => e = errOf (setE n x k) ∧ w' = w := by
  have H := hideD (rset_any x k h)
  generalize setE n x k = E at *
  clear h
  go_enter Tryz.func11, Tryz.ntmps11
  go_wp2_with fail
  refine H.out.mono ?_
  rintro e w1 ⟨rfl, rfl⟩
  go_wp2_with fail
  exact bodyPost_ret (v := .tuple #[.pointer none, .int .i64 E]) (by simp [results, Tryz.results11, go_sem]) rfl ⟨rfl, rfl⟩
theorem runset_empty (r n m B x : Nat) (k : Int) (c : Row) (w : World) (hn : n ≤ 8) (hm : m = (n + 1) * (n + 1)) (h : RZone w B r n (listOf c m)) (h0 : c 0 = 0) (x1 : 1 ≤ x) (xn : x ≤ n) (k0 : 0 ≤ k) (k1 : k ≤ 1048576) :
    Calls Tryz.prog 11 #[.pointer (some ⟨r, 0, none⟩), .int .i64 x, .int .i64 k] w fun e w' => RefOut w' n m e (some fun _ => 0) ∧ Below w.heap.size w w' := by
  have mp : 0 < m := by rw [hm]; exact Nat.mul_pos (by omega) (by omega)
  have HE := rempty_is h mp
  rw [h0] at HE
  have HE := hideD HE
  have H0 := hideD (rset_any x k h)
  rw [show setE n (x : Int) k = 0 by unfold setE; rw [if_pos (show clockB n x = true from decide_eq_true (by omega)), if_pos ⟨k0, k1⟩]] at H0
  have HD := hideD (rdim_any h)
  have HN := hideD (nothing_any n m w hn hm)
  clear h
  go_enter Tryz.func11, Tryz.ntmps11
  go_wp2_with fail
  refine H0.out.mono ?_
  rintro e w1 ⟨rfl, hw⟩
  subst hw
  go_wp2_with fail
  refine HE.out.mono ?_
  rintro e w2 ⟨rfl, hw⟩
  subst hw
  go_wp2_with fail
  refine HD.out.mono ?_
  rintro e w3 ⟨rfl, hw⟩
  subst hw
  go_wp2_with fail
  refine HN.out.mono ?_
  rintro e w4 ⟨⟨b, B', rfl, hz⟩, hb⟩
  have FIN : Hid (RefOut w4 n m (.returned (.tuple #[.pointer (some ⟨b, 0, none⟩), .int .i64 0])) (some fun _ => 0)) := ⟨B', b, rfl, hz⟩
  have hB := hideD hb
  clear hz hb HN HD HE H0
  go_wp2_with fail
  exact bodyPost_ret (v := .tuple #[.pointer (some ⟨b, 0, none⟩), .int .i64 0]) (by simp [results, Tryz.results11, go_sem]) rfl ⟨FIN.out, hB.out⟩
theorem rcopy_nil (a b : Value) (w : World) : Calls Tryz.prog 15 #[.pointer none, a, b] w fun e w' => e = errOf 1 ∧ w' = w := by
  go_enter Tryz.func15, Tryz.ntmps15
  go_wp2_with fail
  exact bodyPost_ret (v := .tuple #[.pointer none, .int .i64 1]) (by simp [results, Tryz.results15, go_sem]) rfl ⟨rfl, rfl⟩
theorem rfreeZ_nil (a : Value) (w : World) : Calls Tryz.prog 13 #[.pointer none, a] w fun e w' => e = errOf 1 ∧ w' = w := by
  go_enter Tryz.func13, Tryz.ntmps13
  go_wp2_with fail
  exact bodyPost_ret (v := .tuple #[.pointer none, .int .i64 1]) (by simp [results, Tryz.results13, go_sem]) rfl ⟨rfl, rfl⟩
theorem rkeep_nil (a : Value) (w : World) : Calls Tryz.prog 17 #[.pointer none, a] w fun e w' => e = errOf 1 ∧ w' = w := by
  go_enter Tryz.func17, Tryz.ntmps17
  go_wp2_with fail
  exact bodyPost_ret (v := .tuple #[.pointer none, .int .i64 1]) (by simp [results, Tryz.results17, go_sem]) rfl ⟨rfl, rfl⟩
theorem rkeep_long (p : Option Addr) (r q cap : Nat) (ad : Option Addr) (w : World) (hq : 8 < q) : Calls Tryz.prog 17 #[.pointer (some ⟨r, 0, none⟩), .slice ad q cap] w fun e w' => e = errOf 6 ∧ w' = w := by
  have k : (8 : Int) < (q : Int) := by omega
  go_enter Tryz.func17, Tryz.ntmps17
  go_wp2_with fail
  exact bodyPost_ret (v := .tuple #[.pointer none, .int .i64 6]) (by simp [results, Tryz.results17, go_sem]) rfl ⟨rfl, rfl⟩
theorem rcopy_err {w : World} {B r n : Nat} {l : List Int} (t f : Int) (h : RZone w B r n l) (hE : (clockB n t && clockB n f) = false) :
    Calls Tryz.prog 15 #[.pointer (some ⟨r, 0, none⟩), .int .i64 t, .int .i64 f] w fun e w' => e = errOf 12 ∧ w' = w := by
  have I1 := hideD (isClock_any t h)
  have I2 := hideD (isClock_any f h)
  clear h
  cases ht : clockB n t with
  | false =>
    rw [ht] at I1
    clear hE I2 ht
    go_enter Tryz.func15, Tryz.ntmps15
    go_wp2_with fail
    refine I1.out.mono ?_
    rintro e w1 ⟨rfl, rfl⟩
    go_wp2_with fail
    exact bodyPost_ret (v := .tuple #[.pointer none, .int .i64 12]) (by simp [results, Tryz.results15, go_sem]) rfl ⟨rfl, rfl⟩
  | true =>
    have hf : clockB n f = false := by rw [ht] at hE; exact hE
    rw [ht] at I1
    rw [hf] at I2
    clear hE hf ht
    go_enter Tryz.func15, Tryz.ntmps15
    go_wp2_with fail
    refine I1.out.mono ?_
    rintro e w1 ⟨rfl, hw⟩
    subst hw
    go_wp2_with fail
    refine I2.out.mono ?_
    rintro e w2 ⟨rfl, hw⟩
    subst hw
    go_wp2_with fail
    exact bodyPost_ret (v := .tuple #[.pointer none, .int .i64 12]) (by simp [results, Tryz.results15, go_sem]) rfl ⟨rfl, rfl⟩
theorem rcopy_empty (r n m B t f : Nat) (c : Row) (w : World) (hn : n ≤ 8) (hm : m = (n + 1) * (n + 1)) (h : RZone w B r n (listOf c m)) (h0 : c 0 = 0) (t1 : 1 ≤ t) (tn : t ≤ n) (f1 : 1 ≤ f) (fn : f ≤ n) :
    Calls Tryz.prog 15 #[.pointer (some ⟨r, 0, none⟩), .int .i64 t, .int .i64 f] w fun e w' => RefOut w' n m e (some fun _ => 0) ∧ Below w.heap.size w w' := by
  have mp : 0 < m := by rw [hm]; exact Nat.mul_pos (by omega) (by omega)
  have HE := rempty_is h mp
  rw [h0] at HE
  have HE := hideD HE
  have I1 := hideD (isClock_any t h)
  have I2 := hideD (isClock_any f h)
  rw [show clockB n (t : Int) = true from decide_eq_true (by omega)] at I1
  rw [show clockB n (f : Int) = true from decide_eq_true (by omega)] at I2
  have HD := hideD (rdim_any h)
  have HN := hideD (nothing_any n m w hn hm)
  clear h
  go_enter Tryz.func15, Tryz.ntmps15
  go_wp2_with fail
  refine I1.out.mono ?_
  rintro e w1 ⟨rfl, hw⟩
  subst hw
  go_wp2_with fail
  refine I2.out.mono ?_
  rintro e w2 ⟨rfl, hw⟩
  subst hw
  go_wp2_with fail
  refine HE.out.mono ?_
  rintro e w2 ⟨rfl, hw⟩
  subst hw
  go_wp2_with fail
  refine HD.out.mono ?_
  rintro e w3 ⟨rfl, hw⟩
  subst hw
  go_wp2_with fail
  refine HN.out.mono ?_
  rintro e w4 ⟨⟨b, B', rfl, hz⟩, hb⟩
  have FIN : Hid (RefOut w4 n m (.returned (.tuple #[.pointer (some ⟨b, 0, none⟩), .int .i64 0])) (some fun _ => 0)) := ⟨B', b, rfl, hz⟩
  have hB := hideD hb
  clear hz hb HN HD HE I1 I2
  go_wp2_with fail
  exact bodyPost_ret (v := .tuple #[.pointer (some ⟨b, 0, none⟩), .int .i64 0]) (by simp [results, Tryz.results15, go_sem]) rfl ⟨FIN.out, hB.out⟩
end Go.Proofs.YtfhfdpapppgfpaaGreatDoor

/-
  What the document's Free tells of what is no clock, and of the empty zone.
-/
namespace Go.Proofs.YtfhfdpapppgfpaaGreatDoor
open Go.RowKit
set_option linter.unusedVariables false
set_option maxRecDepth 100000
set_option maxHeartbeats 4000000 in
theorem rfreeZ_err (r n B q cap : Nat) (ad : Option Addr) (l L : List Int) (w : World) (h : RZone w B r n L) (hl : l.length = q) (hv : IntsAt w (.slice ad q cap) l) (hq : q ≤ 9223372036854775807) (ha : hasA n l q = false) :
    Calls Tryz.prog 13 #[.pointer (some ⟨r, 0, none⟩), .slice ad q cap] w fun e w' => e = errOf 12 ∧ w' = w := by
  have HI : Hid (∀ k, _) := fun k => isClock_any (l.getD k 0) h
  have HC : Hid (∀ k, k < q → ∃ cb off, ad = some ⟨cb, off, none⟩ ∧ w.cell? ⟨cb, off + k, none⟩ = some (.int .i64 (l.getD k 0))) := fun k hk => hv.at hl k hk
  have HA := hideD ha
  clear h hv hl ha
  have q1 : (q : Int) ≤ 9223372036854775807 := by omega
  go_enter Tryz.func13, Tryz.ntmps13
  go_wp2_with fail
  go_loopg [6] q (fun g' u wr => ∃ (K : Nat), K ≤ q ∧ g' = q - K ∧ u = .int .i64 (K : Int) ∧ wr = w ∧ Hid (hasA n l K = true))
  case atStart => exact ⟨0, by omega, rfl, rfl, rfl, rfl⟩
  case round =>
    obtain ⟨K, hK, rfl, rfl, rfl, hT⟩ := hrel
    by_cases ck : K < q
    · have k0 : (0 : Int) ≤ (K : Int) := by omega
      have k1 : (K : Int) < (q : Int) := by omega
      obtain ⟨cb, off, rfl, a1⟩ := HC.out K ck
      have H1 := hideD (HI.out K)
      cases hx : clockB n (l.getD K 0) with
      | false =>
        rw [hx] at H1
        clear hx HI HC
        go_wp2_with fail
        refine H1.out.mono ?_
        rintro e w1 ⟨rfl, hw⟩
        subst hw
        clear H1 a1
        go_wp2_with fail
        exact bodyPost_ret (v := .tuple #[.pointer none, .int .i64 12]) (by simp [results, Tryz.results13, go_sem]) rfl ⟨rfl, rfl⟩
      | true =>
        have NX : Hid (hasA n l (K + 1) = true) := by show _ = _; rw [hasA, hT.out, hx]; rfl
        rw [hx] at H1
        clear hx
        go_wp2_with fail
        refine H1.out.mono ?_
        rintro e w1 ⟨rfl, hw⟩
        subst hw
        clear H1 a1
        go_wp2_with fail
        go_roundg (q - (K + 1))
        case measure => omega
        case rel => exact ⟨K + 1, by omega, rfl, by go_num, rfl, NX⟩
    · obtain rfl : K = q := by omega
      exact absurd hT.out (by rw [HA.out]; exact Bool.false_ne_true)
set_option maxHeartbeats 4000000 in
theorem rfreeZ_empty (r n m B q cap : Nat) (ad : Option Addr) (l : List Int) (c : Row) (w : World) (hn : n ≤ 8) (hm : m = (n + 1) * (n + 1)) (h : RZone w B r n (listOf c m)) (h0 : c 0 = 0) (hl : l.length = q) (hv : IntsAt w (.slice ad q cap) l) (hq : q ≤ 9223372036854775807) (ha : hasA n l q = true) :
    Calls Tryz.prog 13 #[.pointer (some ⟨r, 0, none⟩), .slice ad q cap] w fun e w' => RefOut w' n m e (some fun _ => 0) ∧ Below w.heap.size w w' := by
  have mp : 0 < m := by rw [hm]; exact Nat.mul_pos (by omega) (by omega)
  have HE := rempty_is h mp
  rw [h0] at HE
  have HE := hideD HE
  have HD := hideD (rdim_any h)
  have HN := hideD (nothing_any n m w hn hm)
  have HI : Hid (∀ k, k < q → Calls Tryz.prog 48 #[.pointer (some ⟨r, 0, none⟩), .int .i64 (l.getD k 0)] w fun e w' => e = .returned (.bool true) ∧ w' = w) := fun k hk => by
    have := isClock_any (l.getD k 0) h
    rw [show clockB n (l.getD k 0) = true from decide_eq_true (by have := hasA_at ha k hk; omega)] at this
    exact this
  have HC : Hid (∀ k, k < q → ∃ cb off, ad = some ⟨cb, off, none⟩ ∧ w.cell? ⟨cb, off + k, none⟩ = some (.int .i64 (l.getD k 0))) := fun k hk => hv.at hl k hk
  clear h hv hl ha hm
  have q1 : (q : Int) ≤ 9223372036854775807 := by omega
  go_enter Tryz.func13, Tryz.ntmps13
  go_wp2_with fail
  go_loopg [6] q (fun g' u wr => ∃ (K : Nat), K ≤ q ∧ g' = q - K ∧ u = .int .i64 (K : Int) ∧ wr = w)
  case atStart => exact ⟨0, by omega, rfl, rfl, rfl⟩
  case round =>
    obtain ⟨K, hK, rfl, rfl, rfl⟩ := hrel
    by_cases ck : K < q
    · have k0 : (0 : Int) ≤ (K : Int) := by omega
      have k1 : (K : Int) < (q : Int) := by omega
      obtain ⟨cb, off, rfl, a1⟩ := HC.out K ck
      have H1 := hideD (HI.out K ck)
      go_wp2_with fail
      refine H1.out.mono ?_
      rintro e w1 ⟨rfl, hw⟩
      subst hw
      clear H1 a1
      go_wp2_with fail
      go_roundg (q - (K + 1))
      case measure => omega
      case rel => exact ⟨K + 1, by omega, rfl, by go_num, rfl⟩
    · have k1 : ¬ ((K : Int) < (q : Int)) := by omega
      clear HI HC
      go_wp2_with fail
      refine HE.out.mono ?_
      rintro e w1 ⟨rfl, hw⟩
      subst hw
      clear HE
      go_wp2_with fail
      refine HD.out.mono ?_
      rintro e w3 ⟨rfl, hw⟩
      subst hw
      clear HD
      go_wp2_with fail
      refine HN.out.mono ?_
      rintro e w4 ⟨⟨b, B', rfl, hz⟩, hb⟩
      have FIN : Hid (RefOut w4 n m (.returned (.tuple #[.pointer (some ⟨b, 0, none⟩), .int .i64 0])) (some fun _ => 0)) := ⟨B', b, rfl, hz⟩
      have hB := hideD hb
      clear hz hb HN
      go_wp2_with fail
      exact bodyPost_ret (v := .tuple #[.pointer (some ⟨b, 0, none⟩), .int .i64 0]) (by simp [results, Tryz.results13, go_sem]) rfl ⟨FIN.out, hB.out⟩
end Go.Proofs.YtfhfdpapppgfpaaGreatDoor
