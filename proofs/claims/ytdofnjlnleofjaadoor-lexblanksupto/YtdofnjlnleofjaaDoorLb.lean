/-
  lex.span.
-/
import Derived.Test.YtdofnjlnleofjaaDoorLa
namespace Go.Proofs.YtdofnjlnleofjaaDoor
open Go.RowKit
set_option linter.unusedVariables false
def feedI (x : Int) : Bool := !(x == 10)
def spanL (f : Int → Bool) : List UInt8 → Nat
  | [] => 0
  | c :: l => if f c.toNat then spanL f l + 1 else 0
theorem span_step (f : Int → Bool) : ∀ (l : List UInt8) (k : Nat), k ≤ spanL f l → (h : k < l.length) → (f (l[k].toNat) = true → k + 1 ≤ spanL f l) ∧ (f (l[k].toNat) = false → spanL f l = k)
  | [], k, _, h => by simp at h
  | c :: l, k, hk, h => by
    by_cases q : f c.toNat = true
    · have e : spanL f (c :: l) = spanL f l + 1 := by simp [spanL, q]
      rw [e] at hk ⊢
      cases k with
      | zero => exact ⟨fun _ => by omega, fun g => by simp [q] at g⟩
      | succ k =>
        have := span_step f l k (by omega) (by simpa using h)
        simp only [List.getElem_cons_succ]
        exact ⟨fun g => by have := this.1 g; omega, fun g => by have := this.2 g; omega⟩
    · have e : spanL f (c :: l) = 0 := by simp [spanL, q]
      rw [e] at hk ⊢
      obtain rfl : k = 0 := by omega
      exact ⟨fun g => absurd g q, fun _ => rfl⟩
theorem span_le (f : Int → Bool) : ∀ l : List UInt8, spanL f l ≤ l.length
  | [] => Nat.le_refl _
  | c :: l => by
    have := span_le f l
    unfold spanL
    split
    · simp
      omega
    · simp
theorem len_of (s : ByteArray) : s.data.toList.length = s.size := by simp
set_option maxRecDepth 100000 in
theorem span_word (s : ByteArray) (w : World) (hs : s.size ≤ 140737488355328) : Calls Tryd.prog 11 #[.string s, .func (.func 12) #[] #[]] w fun e w' => e = .returned (.int .i64 (spanL wrdI s.data.toList)) ∧ w' = w := by
  have H : Hid (∀ x w, Calls Tryd.prog 12 #[.int .u8 x] w fun e w' => e = .returned (.bool (wrdI x)) ∧ w' = w) := hideR fun x w => inWord_any x w
  have ST : Hid (∀ k (h : k < s.size), k ≤ spanL wrdI s.data.toList → (wrdI (s[k].toNat) = true → k + 1 ≤ spanL wrdI s.data.toList) ∧ (wrdI (s[k].toNat) = false → spanL wrdI s.data.toList = k)) := fun k h g => span_step wrdI s.data.toList k g (by rw [len_of]; exact h)
  have LE : Hid (spanL wrdI s.data.toList ≤ s.size) := by have := span_le wrdI s.data.toList; rw [len_of] at this; exact this
  generalize spanL wrdI s.data.toList = A at *
  go_enter Tryd.func11, Tryd.ntmps11
  go_wp2_with fail
  go_loopw [8] (fun i wr => ∃ (k : Nat), k ≤ A ∧ i = .int .i64 k ∧ wr = w) (fun i _ => s.size - (intOf i).toNat)
  case atStart => exact ⟨0, by omega, rfl, rfl⟩
  case round =>
    obtain ⟨k, hk, rfl, rfl⟩ := hrel
    have le := LE.out
    by_cases ck : k < s.size
    · have k0 : (0 : Int) ≤ (k : Int) := by omega
      have k1 : (k : Int) < (s.size : Int) := by omega
      have HC := hideR (H.out (s[k].toNat : Int) wr)
      obtain ⟨g1, g2⟩ := ST.out k ck hk
      have G1 := hideR g1
      have G2 := hideR g2
      clear g1 g2 ST H LE
      cases q : wrdI (s[k].toNat : Int)
      · rw [q] at HC
        have e := G2.out q
        clear q G1 G2
        subst e
        go_wp2_with fail
        refine HC.out.mono ?_
        rintro e w1 ⟨rfl, rfl⟩
        go_wp2_with fail
        go_ret
        exact ⟨rfl, rfl⟩
      · rw [q] at HC
        have e := G1.out q
        clear q G1 G2
        go_wp2_with fail
        refine HC.out.mono ?_
        rintro e w1 ⟨rfl, rfl⟩
        go_wp2_with fail
        go_roundw
        case rel => exact ⟨k + 1, by omega, by go_num, by first | rfl | trivial⟩
        case measure => simp [intOf]; omega
    · obtain rfl : k = A := by omega
      have e : s.size = k := by omega
      have k1 : decide ((k : Int) < (s.size : Int)) = false := by simp; omega
      have E := hideR e
      clear e le LE ST H
      go_wp2_with fail
      go_ret
      exact ⟨by first | rfl | (rw [E.out]; rfl), rfl⟩
set_option maxRecDepth 100000 in
theorem span_digits (s : ByteArray) (w : World) (hs : s.size ≤ 140737488355328) : Calls Tryd.prog 11 #[.string s, .func (.func 16) #[] #[]] w fun e w' => e = .returned (.int .i64 (spanL digI s.data.toList)) ∧ w' = w := by
  have H : Hid (∀ x w, Calls Tryd.prog 16 #[.int .u8 x] w fun e w' => e = .returned (.bool (digI x)) ∧ w' = w) := hideR fun x w => isDigit_any x w
  have ST : Hid (∀ k (h : k < s.size), k ≤ spanL digI s.data.toList → (digI (s[k].toNat) = true → k + 1 ≤ spanL digI s.data.toList) ∧ (digI (s[k].toNat) = false → spanL digI s.data.toList = k)) := fun k h g => span_step digI s.data.toList k g (by rw [len_of]; exact h)
  have LE : Hid (spanL digI s.data.toList ≤ s.size) := by have := span_le digI s.data.toList; rw [len_of] at this; exact this
  generalize spanL digI s.data.toList = A at *
  go_enter Tryd.func11, Tryd.ntmps11
  go_wp2_with fail
  go_loopw [8] (fun i wr => ∃ (k : Nat), k ≤ A ∧ i = .int .i64 k ∧ wr = w) (fun i _ => s.size - (intOf i).toNat)
  case atStart => exact ⟨0, by omega, rfl, rfl⟩
  case round =>
    obtain ⟨k, hk, rfl, rfl⟩ := hrel
    have le := LE.out
    by_cases ck : k < s.size
    · have k0 : (0 : Int) ≤ (k : Int) := by omega
      have k1 : (k : Int) < (s.size : Int) := by omega
      have HC := hideR (H.out (s[k].toNat : Int) wr)
      obtain ⟨g1, g2⟩ := ST.out k ck hk
      have G1 := hideR g1
      have G2 := hideR g2
      clear g1 g2 ST H LE
      cases q : digI (s[k].toNat : Int)
      · rw [q] at HC
        have e := G2.out q
        clear q G1 G2
        subst e
        go_wp2_with fail
        refine HC.out.mono ?_
        rintro e w1 ⟨rfl, rfl⟩
        go_wp2_with fail
        go_ret
        exact ⟨rfl, rfl⟩
      · rw [q] at HC
        have e := G1.out q
        clear q G1 G2
        go_wp2_with fail
        refine HC.out.mono ?_
        rintro e w1 ⟨rfl, rfl⟩
        go_wp2_with fail
        go_roundw
        case rel => exact ⟨k + 1, by omega, by go_num, by first | rfl | trivial⟩
        case measure => simp [intOf]; omega
    · obtain rfl : k = A := by omega
      have e : s.size = k := by omega
      have k1 : decide ((k : Int) < (s.size : Int)) = false := by simp; omega
      have E := hideR e
      clear e le LE ST H
      go_wp2_with fail
      go_ret
      exact ⟨by first | rfl | (rw [E.out]; rfl), rfl⟩
set_option maxRecDepth 100000 in
theorem span_remark (s : ByteArray) (w : World) (hs : s.size ≤ 140737488355328) : Calls Tryd.prog 11 #[.string s, .func (.func 17) #[] #[]] w fun e w' => e = .returned (.int .i64 (spanL feedI s.data.toList)) ∧ w' = w := by
  have H : Hid (∀ x w, Calls Tryd.prog 17 #[.int .u8 x] w fun e w' => e = .returned (.bool (feedI x)) ∧ w' = w) := hideR fun x w => noFeed_any x w
  have ST : Hid (∀ k (h : k < s.size), k ≤ spanL feedI s.data.toList → (feedI (s[k].toNat) = true → k + 1 ≤ spanL feedI s.data.toList) ∧ (feedI (s[k].toNat) = false → spanL feedI s.data.toList = k)) := fun k h g => span_step feedI s.data.toList k g (by rw [len_of]; exact h)
  have LE : Hid (spanL feedI s.data.toList ≤ s.size) := by have := span_le feedI s.data.toList; rw [len_of] at this; exact this
  generalize spanL feedI s.data.toList = A at *
  go_enter Tryd.func11, Tryd.ntmps11
  go_wp2_with fail
  go_loopw [8] (fun i wr => ∃ (k : Nat), k ≤ A ∧ i = .int .i64 k ∧ wr = w) (fun i _ => s.size - (intOf i).toNat)
  case atStart => exact ⟨0, by omega, rfl, rfl⟩
  case round =>
    obtain ⟨k, hk, rfl, rfl⟩ := hrel
    have le := LE.out
    by_cases ck : k < s.size
    · have k0 : (0 : Int) ≤ (k : Int) := by omega
      have k1 : (k : Int) < (s.size : Int) := by omega
      have HC := hideR (H.out (s[k].toNat : Int) wr)
      obtain ⟨g1, g2⟩ := ST.out k ck hk
      have G1 := hideR g1
      have G2 := hideR g2
      clear g1 g2 ST H LE
      cases q : feedI (s[k].toNat : Int)
      · rw [q] at HC
        have e := G2.out q
        clear q G1 G2
        subst e
        go_wp2_with fail
        refine HC.out.mono ?_
        rintro e w1 ⟨rfl, rfl⟩
        go_wp2_with fail
        go_ret
        exact ⟨rfl, rfl⟩
      · rw [q] at HC
        have e := G1.out q
        clear q G1 G2
        go_wp2_with fail
        refine HC.out.mono ?_
        rintro e w1 ⟨rfl, rfl⟩
        go_wp2_with fail
        go_roundw
        case rel => exact ⟨k + 1, by omega, by go_num, by first | rfl | trivial⟩
        case measure => simp [intOf]; omega
    · obtain rfl : k = A := by omega
      have e : s.size = k := by omega
      have k1 : decide ((k : Int) < (s.size : Int)) = false := by simp; omega
      have E := hideR e
      clear e le LE ST H
      go_wp2_with fail
      go_ret
      exact ⟨by first | rfl | (rw [E.out]; rfl), rfl⟩
end Go.Proofs.YtdofnjlnleofjaaDoor
