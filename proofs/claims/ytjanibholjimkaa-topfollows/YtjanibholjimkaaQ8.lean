/-
  The contracts of dbm.Limits without limits, Universe, Zero.
-/
import Derived.Test.YtjanibholjimkaaQ7
namespace Go.Proofs.Ytjanibholjimkaa
open Go.RowKit
set_option linter.unusedVariables false
set_option maxRecDepth 100000
/-- The rows of the one valuation in which all clocks are 0, laid up to clock c. -/
def zeroR : Nat → Mat → Mat
  | 0, r => r
  | c + 1, r => tg (zeroR c r) (c + 1) 0 1
set_option maxHeartbeats 1000000 in
theorem zero_dbm (n : Nat) (w : World) (h : n ≤ 8) :
    Calls Try.prog 5 #[.int .i64 n] w fun e w' => Below w.heap.size w w' ∧ ZoneOut w' w.heap.size n e (zoneR n (zeroR n (startR n (n + 1) 0))) := by
  have H := hideD (mayYes n w h)
  have HD := hideD (draftOf_any n w h)
  go_enter Try.func5, Try.ntmps5
  go_wp2_with fail
  refine H.out.mono ?_
  rintro e w' ⟨rfl, rfl⟩
  go_wp2_with fail
  refine HD.out.mono ?_
  rintro e w1 ⟨rfl, hd, hb⟩
  have hD1 := hideD hd
  have hB1 := hideD hb
  clear hd hb H HD
  go_wp2_with fail
  go_loopw [5] (fun s wr => ∃ (K : Nat), K ≤ n ∧ s = .int .i64 ((K + 1 : Nat) : Int) ∧ Hid (Draft wr w'.heap.size n (zeroR K (startR n (n + 1) 0))) ∧ Hid (Below w'.heap.size w' wr)) (fun s _ => n + 1 - (intOf s).toNat)
  case atStart => exact ⟨0, by omega, rfl, hD1, hB1⟩
  case round =>
    obtain ⟨K, hK, rfl, hD, hB⟩ := hrel
    clear hD1 hB1
    by_cases c : K < n
    · have HT := hideD (tighten_any _ n (K + 1) 0 _ 1 wr hD.out (by omega) (by omega) (by omega) (by omega))
      have eK : Hid (((K + 1 : Nat) : Int) = (K + 1 : Nat)) := rfl
      have cc : ((K + 1 : Nat) : Int) ≤ (n : Int) := by omega
      have c2 : ((K + 1 : Nat) : Int) < 9223372036854775807 := by omega
      have q0 : ((K + 1 : Nat) : Int) + 1 = ((K + 1 + 1 : Nat) : Int) := by omega
      have QQ := hideD q0
      clear q0
      generalize ez : ((K + 1 : Nat) : Int) = z at *
      go_wp2_with fail
      refine HT.out.mono ?_
      rintro e' w2 ⟨rfl, hd, hb⟩
      have hD5 := hideD hd
      have hB5 := hideD (hB.out.trans hb)
      clear hd hb
      go_wp2_with fail
      go_roundw
      case rel => exact ⟨K + 1, by omega, by rw [← QQ.out], hD5, hB5⟩
      case measure => simp [intOf]; omega
    · have st : Hid (K = n) := by show K = n; omega
      have hD' : Hid (Draft wr w'.heap.size n (zeroR n (startR n (n + 1) 0))) := by have e := st.out; subst e; exact hD
      have HZ := hideD (zone_any _ n _ wr h hD'.out)
      have cc : ¬ ((K + 1 : Nat) : Int) ≤ (n : Int) := by omega
      have hsz := hB.out.size
      generalize ez : ((K + 1 : Nat) : Int) = z at *
      go_wp2_with fail
      refine HZ.out.mono ?_
      rintro e' w3 ⟨hz, hb⟩
      have hB3 := hideD (hB.out.trans hb)
      cases ez : zoneR n (zeroR n (startR n (n + 1) 0)) with
      | none =>
        rw [ez] at hz
        obtain rfl := hz
        go_wp2_with fail
        exact bodyPost_ret (v := .tuple #[.pointer none, .int .i64 10]) (by simp [results, Try.results5, go_sem]) rfl ⟨hB3.out, by rw [ez]; exact rfl⟩
      | some c =>
        rw [ez] at hz
        obtain ⟨b', hb', rfl, hz⟩ := hz
        go_wp2_with fail
        exact bodyPost_ret (v := .tuple #[.pointer (some ⟨b', 0, none⟩), .int .i64 0]) (by simp [results, Try.results5, go_sem]) rfl ⟨hB3.out, by rw [ez]; exact ⟨b', Nat.le_trans hsz hb', rfl, hz⟩⟩
end Go.Proofs.Ytjanibholjimkaa
