/-
  The document's Compare of valuations.
-/
import Derived.Test.YtjbimdehghnbhaaPtEz
namespace Go.Proofs.Ytjbimdehghnbhaa
open Go.RowKit Go.Shelf
set_option linter.unusedVariables false
set_option maxRecDepth 100000
set_option maxHeartbeats 2000000 in
theorem rcompare06_any (ad ad' : Option Addr) (cap cap' p q : Nat) (L M : Rats) (w : World) (hp : L.q = p) (hq : M.q = q) (p1 : p ≤ 9223372036854775807) (q1 : q ≤ 9223372036854775807) (hL : RatV w ad L) (hM : RatV w ad' M) (iL : RatI L) (iM : RatI M) :
    Calls Try.prog 8 #[.slice ad p cap, .slice ad' q cap'] w fun e w' => e = .returned (.int .i64 (cmpLL L M)) ∧ Below w.heap.size w w' := by
  have HL := hideR hL
  have HM := hideR hM
  have IL := hideR iL
  have IM := hideR iM
  have HP := hideR hp
  have HQ := hideR hq
  clear hL hM iL iM hp hq
  obtain ⟨R, hR⟩ : ∃ R, cmpLL L M = R := ⟨_, rfl⟩
  rw [hR]
  have HRR := hideR hR
  clear hR
  go_enter Try.func8, Try.ntmps8
  go_wp2_with fail
  go_loopw [5] (fun s wr => ∃ (K : Nat), K ≤ p ∧ s = .int .i64 (K : Int) ∧ Hid (K ≤ q ∧ cmpF L M K = 0) ∧ Hid (Below w.heap.size w wr)) (fun s _ => p - (intOf s).toNat)
  case atStart => exact ⟨0, by omega, rfl, ⟨Nat.zero_le _, rfl⟩, Below.refl _ _⟩
  case round =>
    obtain ⟨K, hK, rfl, O, B⟩ := hrel
    by_cases ck : K < p
    · have k0 : (K : Int) < (p : Int) := by omega
      by_cases cq : K < q
      · obtain ⟨b, off, rfl, c0, c1⟩ := (HL.out.later B.out) K (by rw [HP.out]; exact ck)
        obtain ⟨b', off', rfl, e0, e1⟩ := (HM.out.later B.out) K (by rw [HQ.out]; exact cq)
        have k1 : (K : Int) < (q : Int) := by omega
        have iK := IL.out K (by rw [HP.out]; exact ck)
        have jK := IM.out K (by rw [HQ.out]; exact cq)
        have HC := hideR (fun w => xcmp_any (L.n K) (L.d K) (M.n K) (M.d K) w iK.1 iK.2 jK.1 jK.2)
        have ON : Hid (cmpF L M (K + 1) = cmpT (L.n K) (L.d K) (M.n K) (M.d K)) := by show _ = _; rw [cmpF, if_pos O.out.2]
        clear iK jK
        generalize L.n K = x at *
        generalize L.d K = y at *
        generalize M.n K = x' at *
        generalize M.d K = y' at *
        generalize cmpT x y x' y' = G at *
        go_upto_region 4 with (fail)
        have B2 := Below.refl wr.heap.size wr
        go_region_held3 (fun w' => w'.cell? ⟨b, off + K * 2, none⟩ = some (.int .i64 x) ∧ w'.cell? ⟨b, off + K * 2 + 1, none⟩ = some (.int .i64 y) ∧ w'.cell? ⟨b', off' + K * 2, none⟩ = some (.int .i64 x') ∧ w'.cell? ⟨b', off' + K * 2 + 1, none⟩ = some (.int .i64 y'))
          (first | (refine ⟨?_, ?_, ?_, ?_⟩ <;> (first | with_reducible assumption | assumption)) | go_keep)
          (first | (go_at_call 17; refine (HC.out _).mono ?_; rintro e w' ⟨rfl, hb⟩; have s4 := beyond (w := wr) (by first | assumption | (apply Below.drew; assumption)) hb; have s0 := kc ⟨b, off + K * 2, none⟩ (.int .i64 x) hb (by first | assumption | simp [go_sem, *]); have s1 := kc ⟨b, off + K * 2 + 1, none⟩ (.int .i64 y) hb (by first | assumption | simp [go_sem, *]); have s2 := kc ⟨b', off' + K * 2, none⟩ (.int .i64 x') hb (by first | assumption | simp [go_sem, *]); have s3 := kc ⟨b', off' + K * 2 + 1, none⟩ (.int .i64 y') hb (by first | assumption | simp [go_sem, *])))
        all_goals
          have B1 := hideR (beyond B.out s4)
          clear hb B HC c0 c1 e0 e1 s0 s1 s2 s3 s4 B2
          by_cases cg : G = 0
          · subst cg
            have O1 : Hid (K + 1 ≤ q ∧ cmpF L M (K + 1) = 0) := ⟨by omega, ON.out⟩
            clear ON O
            go_wp2_with fail
            go_roundw
            case rel => exact ⟨K + 1, by omega, by go_num, O1, B1⟩
            case measure => simp [intOf]; omega
          · have cg' : (G != 0) = true := by simpa using cg
            have F : Hid (R = G) := by
              show _ = _
              rw [← HRR.out, cmpLL_of (K := K + 1) (by rw [HP.out]; omega) (by rw [HQ.out]; omega) (by rw [ON.out]; exact cg), ON.out]
            clear ON O HRR
            go_wp2_with fail
            go_ret
            exact ⟨by rw [F.out]; rfl, B1.out⟩
      · have k1 : ¬ (K : Int) < (q : Int) := by omega
        have k2 : ¬ (p : Int) < (q : Int) := by omega
        have k3 : (q : Int) < (p : Int) := by omega
        have F : Hid (R = 1) := by
          show _ = _
          have eK : K = q := by have := O.out.1; omega
          rw [← HRR.out]
          unfold cmpLL
          rw [HP.out, HQ.out, show min p q = K by omega, if_pos O.out.2]
          unfold cmpI
          rw [if_neg (by omega), if_pos (by omega)]
        clear HRR O
        go_wp2_with fail
        go_ret
        exact ⟨by rw [F.out]; rfl, B.out⟩
    · have k0 : ¬ (K : Int) < (p : Int) := by omega
      have eK : K = p := by omega
      by_cases cq : p < q
      · have k1 : (p : Int) < (q : Int) := by omega
        have F : Hid (R = -1) := by
          show _ = _
          rw [← HRR.out]
          unfold cmpLL
          rw [HP.out, HQ.out, show min p q = K by omega, if_pos O.out.2]
          unfold cmpI
          rw [if_pos (by omega)]
        clear HRR O eK
        go_wp2_with fail
        go_ret
        exact ⟨by rw [F.out]; rfl, B.out⟩
      · have k1 : ¬ (p : Int) < (q : Int) := by omega
        have k2 : ¬ (q : Int) < (p : Int) := by have := O.out.1; omega
        have F : Hid (R = 0) := by
          show _ = _
          have := O.out.1
          rw [← HRR.out]
          unfold cmpLL
          rw [HP.out, HQ.out, show min p q = K by omega, if_pos O.out.2]
          unfold cmpI
          rw [if_neg (by omega), if_neg (by omega)]
        clear HRR O eK
        go_wp2_with fail
        go_ret
        exact ⟨by rw [F.out]; rfl, B.out⟩
end Go.Proofs.Ytjbimdehghnbhaa
