/-
  gnomonmem.SameRats and KeptRats.
-/
import Derived.Test.YtnhopmoboahlgaaDoorYb
namespace Go.Proofs.YtnhopmoboahlgaaDoor
open Go.RowKit Go.Shelf
set_option linter.unusedVariables false
set_option maxRecDepth 100000 in
set_option maxHeartbeats 4000000 in
theorem same_rats (ad ad' : Option Addr) (cap cap' : Nat) (L : Rats) (w : World) (hV : RatV w ad L) (hV' : RatV w ad' L) (hq : L.q ≤ 9223372036854775807) :
    Calls Tryd.prog 58 #[.slice ad L.q cap, .slice ad' L.q cap'] w fun e w' => e = .returned (.bool true) ∧ Below w.heap.size w w' := by
  have HV := hideR hV
  have HV' := hideR hV'
  clear hV hV'
  generalize hm : L.q = m at *
  have HM := hideR hm
  clear hm
  have m0 : ((m : Int) == (m : Int)) = true := by simp
  have B0 := hideR (Below.refl w.heap.size w)
  go_enter Tryd.func58, Tryd.ntmps58
  go_wp2_with fail
  go_loopw [5] (fun s wr => ∃ (J : Nat), J ≤ m ∧ s = .int .i64 J ∧ Hid (Below w.heap.size w wr)) (fun s _ => m - (intOf s).toNat)
  case atStart => exact ⟨0, by omega, rfl, B0⟩
  case round =>
    obtain ⟨J, hJ, rfl, B⟩ := hrel
    clear B0
    by_cases cj : J < m
    · obtain ⟨b, off, rfl, d1, d2⟩ := HV.out J (by rw [HM.out]; exact cj)
      obtain ⟨b', off', rfl, f1, f2⟩ := HV'.out J (by rw [HM.out]; exact cj)
      have c1 := kc _ _ B.out d1
      have c2 := kc _ _ B.out d2
      have g1 := kc _ _ B.out f1
      have g2 := kc _ _ B.out f2
      have k0 : (0 : Int) ≤ (J : Int) := by omega
      have k1 : (J : Int) < (m : Int) := by omega
      clear d1 d2 f1 f2
      generalize L.n J = u at *
      generalize L.d J = v at *
      go_wp2_with fail
      go_quiet (fail)
      go_wp2_with fail
      go_roundw
      case rel => exact ⟨J + 1, by omega, by go_num, hideR (by first | exact B.out | exact Below.drew B.out | exact below_drewN B.out _)⟩
      case measure => simp [intOf]; omega
    · have e : J = m := by omega
      subst e
      have k1 : decide ((J : Int) < (J : Int)) = false := by simp
      go_wp2_with fail
      go_ret
      exact ⟨rfl, B.out⟩
set_option maxRecDepth 100000 in
set_option maxHeartbeats 4000000 in
theorem kept_rats (g : Nat) (ad : Option Addr) (cap : Nat) (L : Rats) (w : World) (hV : RatV w (some ⟨g, 0, none⟩) (roomy L)) (hV' : RatV w ad L) (hq : L.q * 16 ≤ 140737488355328) :
    Calls Tryd.prog 31 #[.slice (some ⟨g, 0, none⟩) L.q (L.q + 9), .slice ad L.q cap] w fun e w' => e = .returned (.bool true) ∧ Below w.heap.size w w' := by
  have HS : Hid (∀ w', Below w.heap.size w w' → Calls Tryd.prog 58 #[.slice (some ⟨g, 0, none⟩) L.q (L.q + 9), .slice ad L.q cap] w' fun e w'' => e = .returned (.bool true) ∧ Below w'.heap.size w' w'') := hideR fun w' hb => same_rats _ _ _ _ L w' (roomy_of (hV.later hb)) (hV'.later hb) (by omega)
  have HV : Hid (∀ k, L.q ≤ k → k < L.q + 9 → w.cell? ⟨g, k * 2, none⟩ = some (.int .i64 (-700 - ((k - L.q : Nat) : Int))) ∧ w.cell? ⟨g, k * 2 + 1, none⟩ = some (.int .i64 77)) := fun k h1 h2 => by
    obtain ⟨b, off, e, c1, c2⟩ := hV k h2
    injection e with e
    injection e with e1 e2
    subst e1
    subst e2
    simp only [roomy, Nat.not_lt.2 h1, if_false, Nat.zero_add] at c1 c2
    exact ⟨c1, c2⟩
  clear hV hV'
  generalize hm : L.q = m at *
  have e0 : IntKind.i64.wrap ((m : Int) + 9) = ((m + 9 : Nat) : Int) := by rw [IntKind.wrap_i64]; omega
  generalize hN : m + 9 = N at *
  have HN := hideR hN
  have m1 : (0 : Int) ≤ (N : Int) := by omega
  clear hN hm
  go_enter Tryd.func31, Tryd.ntmps31
  go_wp2_with fail
  refine (HS.out _ (Below.refl _ _)).mono ?_
  rintro e w1 ⟨rfl, hb⟩
  have HB := hideR hb
  clear hb HS
  go_wp2_with fail
  go_loopw [6] (fun s wr => ∃ (J : Nat), m ≤ J ∧ J ≤ N ∧ s = .int .i64 J ∧ Hid (Below w.heap.size w wr)) (fun s _ => N - (intOf s).toNat)
  case atStart => exact ⟨m, by omega, by have := HN.out; omega, rfl, HB⟩
  case round =>
    obtain ⟨J, hJ, hJN, rfl, B⟩ := hrel
    clear HB
    by_cases cj : J < N
    · obtain ⟨d1, d2⟩ := HV.out J hJ cj
      have c1 := kc _ _ B.out d1
      have c2 := kc _ _ B.out d2
      have k0 : (0 : Int) ≤ (J : Int) := by omega
      have k1 : (J : Int) < (N : Int) := by omega
      have k5 : (J : Int) ≤ 9000000000000000000 := by have := HN.out; omega
      have e1 : IntKind.i64.wrap (-700 - (J : Int)) = -700 - (J : Int) := by rw [IntKind.wrap_i64]; have := HN.out; omega
      have e2 : IntKind.i64.wrap (-700 - (J : Int) + (m : Int)) = -700 - ((J - m : Nat) : Int) := by rw [IntKind.wrap_i64]; have := HN.out; omega
      have e3 : IntKind.i64.wrap (-700 - ((J - m : Nat) : Int)) = -700 - ((J - m : Nat) : Int) := by rw [IntKind.wrap_i64]; have := HN.out; omega
      clear d1 d2
      generalize -700 - ((J - m : Nat) : Int) = x at *
      go_wp2_with fail
      go_roundw
      case rel => exact ⟨J + 1, by omega, by omega, by go_num, B⟩
      case measure => simp [intOf]; omega
    · have e : J = N := by omega
      subst e
      have k1 : decide ((J : Int) < (J : Int)) = false := by simp
      go_wp2_with fail
      go_ret
      exact ⟨rfl, B.out⟩
end Go.Proofs.YtnhopmoboahlgaaDoor
