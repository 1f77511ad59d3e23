/-
  point.Compare, and the document's.
-/
import Derived.Test.YtjbimdehghnbhaaPt6z
import Derived.Test.YtjbimdehghnbhaaXlz
namespace Go.Proofs.Ytjbimdehghnbhaa
open Go.RowKit Go.Shelf
set_option linter.unusedVariables false
set_option maxRecDepth 100000
def cmpF (L M : Rats) : Nat → Int
  | 0 => 0
  | K + 1 => if cmpF L M K = 0 then cmpT (L.n K) (L.d K) (M.n K) (M.d K) else cmpF L M K
/-- Which of two lists comes first. -/
def cmpLL (L M : Rats) : Int := if cmpF L M (min L.q M.q) = 0 then cmpI L.q M.q else cmpF L M (min L.q M.q)
theorem cmpF_stay {L M : Rats} {K : Nat} (h : ¬ cmpF L M K = 0) : ∀ m, K ≤ m → cmpF L M m = cmpF L M K := by
  intro m hm
  induction m with
  | zero => obtain rfl : K = 0 := by omega
            rfl
  | succ m ih =>
    by_cases e : K = m + 1
    · subst e; rfl
    · have := ih (by omega)
      rw [cmpF, this, if_neg h]
theorem cmpLL_of {L M : Rats} {K : Nat} (hL : K ≤ L.q) (hM : K ≤ M.q) (h : ¬ cmpF L M K = 0) : cmpLL L M = cmpF L M K := by
  unfold cmpLL
  rw [cmpF_stay h (min L.q M.q) (by omega), if_neg h]
set_option maxHeartbeats 1000000 in
theorem cmpFunc_any (ad ad' : Option Addr) (cap cap' p q : Nat) (L M : Rats) (w : World) (hp : L.q = p) (hq : M.q = q) (p1 : p ≤ 9223372036854775807) (q1 : q ≤ 9223372036854775807) (hL : RatV w ad L) (hM : RatV w ad' M) (iL : RatI L) (iM : RatI M) :
    Calls Try.prog 19 #[.slice ad p cap, .slice ad' q cap', .func (.func 14) #[] #[]] w fun e w' => e = .returned (.int .i64 (cmpLL L M)) ∧ Below w.heap.size w w' := by
  have HL := hideR hL
  have HM := hideR hM
  have IL := hideR iL
  have IM := hideR iM
  have HP := hideR hp
  have HQ := hideR hq
  clear hL hM iL iM hp hq
  obtain ⟨R, hR⟩ : ∃ R, cmpLL L M = R := ⟨_, rfl⟩
  rw [hR]
  have HRR := hideR hR
  clear hR
  go_enter Try.func19, Try.ntmps19
  go_wp2_with fail
  go_loopw [13] (fun s wr => ∃ (K : Nat), K ≤ p ∧ s = .int .i64 (K : Int) ∧ Hid (K ≤ q ∧ cmpF L M K = 0) ∧ Hid (Below w.heap.size w wr)) (fun s _ => p - (intOf s).toNat)
  case atStart => exact ⟨0, by omega, rfl, ⟨Nat.zero_le _, rfl⟩, Below.refl _ _⟩
  case round =>
    obtain ⟨K, hK, rfl, O, B⟩ := hrel
    by_cases ck : K < p
    · obtain ⟨b, off, rfl, c0, c1⟩ := (HL.out.later B.out) K (by rw [HP.out]; exact ck)
      have k0 : (K : Int) < (p : Int) := by omega
      by_cases cq : K < q
      · obtain ⟨b', off', rfl, e0, e1⟩ := (HM.out.later B.out) K (by rw [HQ.out]; exact cq)
        have k1 : (K : Int) < (q : Int) := by omega
        have iK := IL.out K (by rw [HP.out]; exact ck)
        have jK := IM.out K (by rw [HQ.out]; exact cq)
        have HC := hideR (fun w => rcmp_any (L.n K) (L.d K) (M.n K) (M.d K) w iK.1 iK.2 jK.1 jK.2)
        have ON : Hid (cmpF L M (K + 1) = cmpT (L.n K) (L.d K) (M.n K) (M.d K)) := by show _ = _; rw [cmpF, if_pos O.out.2]
        have b1 := single wr (.cells #[.int .i64 (L.n K), .int .i64 (L.d K)] 36)
        have b2 := two wr (.cells #[.int .i64 (L.n K), .int .i64 (L.d K)] 36) (.cells #[.int .i64 (M.n K), .int .i64 (M.d K)] 36)
        have g0 := kc _ _ b1 e0
        have g1 := kc _ _ b1 e1
        clear iK jK b1
        generalize L.n K = x at *
        generalize L.d K = y at *
        generalize M.n K = x' at *
        generalize M.d K = y' at *
        generalize cmpT x y x' y' = G at *
        go_wp2_with fail
        refine (HC.out _).mono ?_
        rintro e w1 ⟨rfl, hb⟩
        have B1 := hideR (beyond (beyond B.out b2) hb)
        clear hb B HC c0 c1 e0 e1 g0 g1 b2
        by_cases cg : G = 0
        · subst cg
          have O1 : Hid (K + 1 ≤ q ∧ cmpF L M (K + 1) = 0) := ⟨by omega, ON.out⟩
          clear ON O
          go_wp2_with fail
          go_roundw
          case rel => exact ⟨K + 1, by omega, by go_num, O1, B1⟩
          case measure => simp [intOf]; omega
        · have cg' : (G != 0) = true := by simpa using cg
          have F : Hid (R = G) := by
            show _ = _
            rw [← HRR.out, cmpLL_of (K := K + 1) (by rw [HP.out]; omega) (by rw [HQ.out]; omega) (by rw [ON.out]; exact cg), ON.out]
          clear ON O HRR
          go_wp2_with fail
          go_ret
          exact ⟨by rw [F.out]; rfl, B1.out⟩
      · have k1 : (q : Int) ≤ (K : Int) := by omega
        have F : Hid (R = 1) := by
          show _ = _
          have eK : K = q := by have := O.out.1; omega
          rw [← HRR.out]
          unfold cmpLL
          rw [HP.out, HQ.out, show min p q = K by omega, if_pos O.out.2]
          unfold cmpI
          rw [if_neg (by omega), if_pos (by omega)]
        have b1 := hideR (beyond B.out (single wr (.cells #[.int .i64 (L.n K), .int .i64 (L.d K)] 36)))
        clear HRR O
        go_wp2_with fail
        go_ret
        exact ⟨by rw [F.out]; rfl, b1.out⟩
    · have k0 : ¬ (K : Int) < (p : Int) := by omega
      have eK : K = p := by omega
      by_cases cq : p < q
      · have k1 : (p : Int) < (q : Int) := by omega
        have F : Hid (R = -1) := by
          show _ = _
          rw [← HRR.out]
          unfold cmpLL
          rw [HP.out, HQ.out, show min p q = K by omega, if_pos O.out.2]
          unfold cmpI
          rw [if_pos (by omega)]
        clear HRR O eK
        go_wp2_with fail
        go_ret
        exact ⟨by rw [F.out]; rfl, B.out⟩
      · have k1 : ¬ (p : Int) < (q : Int) := by omega
        have F : Hid (R = 0) := by
          show _ = _
          have := O.out.1
          rw [← HRR.out]
          unfold cmpLL
          rw [HP.out, HQ.out, show min p q = K by omega, if_pos O.out.2]
          unfold cmpI
          rw [if_neg (by omega), if_neg (by omega)]
        clear HRR O eK
        go_wp2_with fail
        go_ret
        exact ⟨by rw [F.out]; rfl, B.out⟩
theorem pcompare_any (a b : Value) (R : Int) (w : World) (H : Hid (Calls Try.prog 19 #[a, b, .func (.func 14) #[] #[]] w fun e w' => e = .returned (.int .i64 R) ∧ Below w.heap.size w w')) :
    Calls Try.prog 7 #[a, b] w fun e w' => e = .returned (.int .i64 R) ∧ Below w.heap.size w w' := by
  go_enter Try.func7, Try.ntmps7
  go_wp2_with fail
  refine H.out.mono ?_
  rintro e w1 ⟨rfl, hb⟩
  have HB := hideR hb
  clear hb H
  go_wp2_with fail
  go_ret
  exact ⟨rfl, HB.out⟩
end Go.Proofs.Ytjbimdehghnbhaa
