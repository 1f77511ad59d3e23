/-
  The document's right, at, widened.
-/
import Derived.Test.YtfffcmelkdmjaaaDoorTgz
namespace Go.Proofs.YtfffcmelkdmjaaaDoor
open Go.RowKit
set_option linter.unusedVariables false
set_option maxRecDepth 100000
theorem rmay_any (n q cap : Nat) (ad : Option Addr) (l : List Int) (w : World) (hl : l.length = q) (hv : IntsAt w (.slice ad q cap) l) (hq : q ≤ 9223372036854775807) :
    Calls Tryd.prog 125 #[.int .i64 n, .slice ad q cap] w fun e w' => e = .returned (.int .i64 (mayE n l)) ∧ w' = w := by
  have HC : Hid (∀ k, k < q → ∃ cb off, ad = some ⟨cb, off, none⟩ ∧ w.cell? ⟨cb, off + k, none⟩ = some (.int .i64 (l.getD k 0))) := fun k hk => hv.at hl k hk
  have HE0 : Hid (¬ q = n → mayE n l = 6) := fun h => by rw [mayE, hl, if_neg h]
  have HEt : Hid (q = n → cstA l q = true → mayE n l = 0) := fun h h' => by rw [mayE, hl, if_pos h, if_pos h']
  have HEf : Hid (q = n → cstA l q = false → mayE n l = 13) := fun h h' => by rw [mayE, hl, if_pos h, if_neg (by rw [h']; decide)]
  clear hv hl
  by_cases e : q = n
  · subst e
    have HT := hideD (HEt.out rfl)
    have HF := hideD (HEf.out rfl)
    clear HE0 HEt HEf
    have q1 : (q : Int) ≤ 9223372036854775807 := by omega
    go_enter Tryd.func125, Tryd.ntmps125
    go_wp2_with fail
    go_loopw [5] (fun s wr => ∃ (K : Nat), K ≤ q ∧ s = .int .i64 (K : Int) ∧ Hid (cstA l K = true) ∧ wr = w) (fun s _ => q - (intOf s).toNat)
    case atStart => exact ⟨0, by omega, rfl, rfl, rfl⟩
    case round =>
      obtain ⟨K, hK, rfl, hA, rfl⟩ := hrel
      by_cases ck : K < q
      · have k0 : (0 : Int) ≤ (K : Int) := by omega
        have k1 : (K : Int) < (q : Int) := by omega
        obtain ⟨cb, off, rfl, c1⟩ := HC.out K ck
        have st : Hid (cstA l (K + 1) = cstB (l.getD K 0)) := by show _ = _; simp [cstA, hA.out]
        generalize l.getD K 0 = x at *
        by_cases x1 : x < -1
        · have st3 : Hid (cstA l q = false) := cstA_false (k := K + 1) q (by omega) (by rw [st.out]; simp [cstB]; omega)
          clear st
          go_wp2_with fail
          go_ret
          exact ⟨by rw [HF.out st3.out]; rfl, rfl⟩
        · by_cases x2 : 1048576 < x
          · have st3 : Hid (cstA l q = false) := cstA_false (k := K + 1) q (by omega) (by rw [st.out]; simp [cstB]; omega)
            clear st
            go_wp2_with fail
            go_ret
            exact ⟨by rw [HF.out st3.out]; rfl, rfl⟩
          · have st3 : Hid (cstA l (K + 1) = true) := by show _ = _; rw [st.out]; simp [cstB]; omega
            clear st
            go_wp2_with fail
            go_roundw
            case rel => exact ⟨K + 1, by omega, by go_num, st3, by trivial⟩
            case measure => simp [intOf]; omega
      · have k1 : ¬ ((K : Int) < (q : Int)) := by omega
        obtain rfl : K = q := by omega
        go_wp2_with fail
        go_ret
        exact ⟨by rw [HT.out hA.out]; rfl, rfl⟩
  · have e' : ¬ ((q : Int) = (n : Int)) := by omega
    go_enter Tryd.func125, Tryd.ntmps125
    go_wp2_with fail
    go_ret
    exact ⟨by rw [HE0.out e]; rfl, rfl⟩
theorem rconst_any (i q cap : Nat) (ad : Option Addr) (l : List Int) (w : World) (hl : l.length = q) (hv : IntsAt w (.slice ad q cap) l) (hi : i ≤ q) (hq : q ≤ 1000) :
    Calls Tryd.prog 127 #[.slice ad q cap, .int .i64 i] w fun e w' => e = .returned (.int .i64 (cstN l i)) ∧ w' = w := by
  by_cases i0 : i = 0
  · subst i0
    have E : Hid (cstN l 0 = 0) := by show _ = _; unfold cstN; rw [if_pos rfl]
    clear hv
    go_enter Tryd.func127, Tryd.ntmps127
    go_wp2_with fail
    go_ret
    exact ⟨by rw [E.out]; rfl, rfl⟩
  · obtain ⟨k, rfl⟩ : ∃ k, i = k + 1 := ⟨i - 1, by omega⟩
    obtain ⟨cb, off, rfl, c1⟩ := hv.at hl k (by omega)
    have E : Hid (cstN l (k + 1) = max (l.getD k 0) 0) := by show _ = _; unfold cstN; rw [if_neg (by omega)]; rfl
    generalize l.getD k 0 = x at *
    have k0 : (0 : Int) ≤ (k : Int) := by omega
    have k1 : (k : Int) < (q : Int) := by omega
    have k2 : ¬ ((k : Int) + 1 = 0) := by omega
    clear hv i0
    by_cases x0 : x < 0
    · go_enter Tryd.func127, Tryd.ntmps127
      go_wp2_with fail
      go_ret
      exact ⟨by rw [E.out, show max x 0 = 0 by omega]; rfl, rfl⟩
    · go_enter Tryd.func127, Tryd.ntmps127
      go_wp2_with fail
      go_ret
      exact ⟨by rw [E.out, show max x 0 = x by omega]; rfl, rfl⟩
/-- One cell, by the document. -/
def wdD (i : Nat) (x y b : Int) : Int := if i = 0 then (if (if b < -(2 * y) then -(2 * y) else b) > 1 then 1 else if b < -(2 * y) then -(2 * y) else b) else wdV i x y b
theorem wdD_same {i : Nat} {x y b : Int} (h : i = 0 → b ≤ 1) (hy : 0 ≤ y) : wdD i x y b = wdV i x y b := by
  unfold wdD wdV
  by_cases e : i = 0
  · have := h e
    rw [if_pos e, if_neg (by omega : ¬ (¬ i = 0 ∧ 2 * x + 1 < b))]
    by_cases l : b < -(2 * y)
    · rw [if_pos l, if_neg (by omega)]
    · rw [if_neg l, if_neg (by omega)]
  · rw [if_neg e]
set_option maxHeartbeats 2000000 in
theorem rwide_any (i : Nat) (b x y : Int) (w : World) (hi : i ≤ 8) (b0 : -2147483648 ≤ b) (b1 : b ≤ 2147483647) (x0 : 0 ≤ x) (x1 : x ≤ 1048576) (y0 : 0 ≤ y) (y1 : y ≤ 1048576) :
    Calls Tryd.prog 126 #[.int .i32 b, .int .i64 i, .int .i64 x, .int .i64 y] w fun e w' => e = .returned (.int .i32 (wdD i x y b)) ∧ w' = w := by
  have w1 : wrap64 (2 * x) = 2 * x := by unfold wrap64; omega
  have w2 : wrap64 (2 * x + 1) = 2 * x + 1 := by unfold wrap64; omega
  have w3 : IntKind.i32.wrap (2 * x + 1) = 2 * x + 1 := by rw [IntKind.wrap_i32]; omega
  have w4 : wrap64 (-2 * y) = -2 * y := by unfold wrap64; omega
  have w5 : IntKind.i32.wrap (-2 * y) = -2 * y := by rw [IntKind.wrap_i32]; omega
  have EQ : Hid (∀ r, r = wdD i x y b → (Ending.returned (.int .i32 r) = .returned (.int .i32 (wdD i x y b)))) := fun r h => by rw [h]
  by_cases c0 : i = 0
  · subst c0
    by_cases c1 : b < -2 * y
    · have F : Hid (wdD 0 x y b = -2 * y) := by show _ = _; unfold wdD; rw [if_pos rfl, if_pos (show b < -(2 * y) by omega), if_neg (by omega)]; omega
      have c2 : ¬ (-2 * y > 1) := by omega
      have c3 : ¬ (1 < -2 * y) := by omega
      go_enter Tryd.func126, Tryd.ntmps126
      go_wp2_with fail
      go_ret
      exact ⟨by rw [F.out]; rfl, rfl⟩
    · by_cases c2 : 1 < b
      · have F : Hid (wdD 0 x y b = 1) := by show _ = _; unfold wdD; rw [if_pos rfl, if_neg (by omega : ¬ b < -(2 * y)), if_pos c2]
        go_enter Tryd.func126, Tryd.ntmps126
        go_wp2_with fail
        go_ret
        exact ⟨by rw [F.out]; rfl, rfl⟩
      · have F : Hid (wdD 0 x y b = b) := by show _ = _; unfold wdD; rw [if_pos rfl, if_neg (by omega : ¬ b < -(2 * y)), if_neg c2]
        go_enter Tryd.func126, Tryd.ntmps126
        go_wp2_with fail
        go_ret
        exact ⟨by rw [F.out]; rfl, rfl⟩
  · have c1 : (0 : Int) < (i : Int) := by omega
    have c1' : ¬ (i : Int) = 0 := by omega
    by_cases c2 : 2 * x + 1 < b
    · have F : Hid (wdD i x y b = 2147483647) := by show _ = _; unfold wdD wdV; rw [if_neg c0, if_pos ⟨c0, c2⟩]
      have c3 : ¬ (2147483647 < -2 * y) := by omega
      go_enter Tryd.func126, Tryd.ntmps126
      go_wp2_with fail
      go_ret
      exact ⟨by rw [F.out]; rfl, rfl⟩
    · by_cases c3 : b < -2 * y
      · have F : Hid (wdD i x y b = -2 * y) := by show _ = _; unfold wdD wdV; rw [if_neg c0, if_neg (fun h => c2 h.2), if_pos (by omega)]; omega
        go_enter Tryd.func126, Tryd.ntmps126
        go_wp2_with fail
        go_ret
        exact ⟨by rw [F.out]; rfl, rfl⟩
      · have F : Hid (wdD i x y b = b) := by show _ = _; unfold wdD wdV; rw [if_neg c0, if_neg (fun h => c2 h.2), if_neg (by omega)]
        go_enter Tryd.func126, Tryd.ntmps126
        go_wp2_with fail
        go_ret
        exact ⟨by rw [F.out]; rfl, rfl⟩
end Go.Proofs.YtfffcmelkdmjaaaDoor
