/-
  The statement that tokens come back: its walk.
-/
import Derived.Test.YtabjadbpllhgkaaDoorMs
import Derived.Test.YtabjadbpllhgkaaDoorMv
namespace Go.Proofs.YtabjadbpllhgkaaDoor
open Go.RowKit
set_option linter.unusedVariables false
namespace lexBack
set_option maxRecDepth 100000 in
set_option maxHeartbeats 2000000 in
theorem walk (s : ByteArray) (_ : s.size ≤ maxLen) (w : World) (hk : Kept w) (hs0 : s.size ≤ 140737488355328) (hs : s.size ≤ 1048576) :
    Calls Tryd.prog 7 #[.string s] w fun e w' => e = .returned (.bool true) ∧ Below w.heap.size w w' := by
  have HK := hideR hk
  clear hk
  by_cases q : ¬ ∀ x ∈ itemsL s, x.2.2.2.2 = 0
  · obtain ⟨e, a, he, hA⟩ := all_bad s (by omega) q
    have N1 := hideR hA
    have he' : (e == 0) = false := by simpa using he
    clear hA q
    go_enter Tryd.func7, Tryd.ntmps7
    go_wp2_with fail
    refine (N1.out _).mono ?_
    rintro e1 w1 ⟨rfl, hb1⟩
    have HK2 := hideR (kept_later HK.out hb1)
    go_wp2_with fail
    refine (live_any _ HK2.out).mono ?_
    rintro e3 w3 ⟨rfl, hb3⟩
    have hb := beyond hb1 hb3
    clear hb1 hb3 HK HK2
    go_wp2_with fail
    go_ret
    exact ⟨rfl, hb⟩
  · have q := Classical.not_not.1 q
    have sm := items_sum s (s.size + 1) 0 (Nat.zero_le _) (by omega)
    have LN := items_count s (s.size + 1) 0
    change (itemsL s).length ≤ s.size + 1 at LN
    change sumL (itemsL s) ≤ _ at sm
    have tz : (joinB (itemsL s)).size ≤ 3 * 1048576 + 1 := by
      have := join_bound (itemsL s)
      have e : (joinB (itemsL s)).size = (Lib.join ((textsL (itemsL s)).map (·.data.toList)) [32]).length := by show (List.toArray _).size = _; simp
      omega
    have N1 := hideR (all_good s (by omega) q w)
    have N2 := hideR (fun w => all_good (joinB (itemsL s)) (by omega) (back_good s q) w)
    have NJ := hideR (fun g cap w hr => join_some g cap (itemsL s) w hr (by omega) (by omega))
    obtain ⟨le, each⟩ := strip_at _ _ (back_items s q)
    rw [le] at N2
    have EA := hideR each
    have LE := hideR le
    clear q each le sm
    generalize itemsL (joinB (itemsL s)) = M at *
    generalize joinB (itemsL s) = t at *
    generalize itemsL s = L at *
    have LB : (L.length : Int) ≤ 1048577 := by omega
    go_enter Tryd.func7, Tryd.ntmps7
    go_wp2_with fail
    refine N1.out.mono ?_
    rintro e1 w1 ⟨g, cap, rfl, R1, hb1⟩
    have RL := hideR R1
    have HB := hideR hb1
    clear R1 hb1 N1
    go_wp2_with fail
    refine (NJ.out g cap _ RL.out).mono ?_
    rintro e2 w2 ⟨rfl, hb2⟩
    have RL2 := hideR (RL.out.later hb2)
    have HB2 := hideR (beyond HB.out hb2)
    clear RL HB hb2 NJ
    go_wp2_with fail
    refine (N2.out _).mono ?_
    rintro e3 w3 ⟨g2, cap2, rfl, R3, hb3⟩
    have RL3 := hideR (RL2.out.later hb3)
    have RM3 := hideR R3
    have HB3 := hideR (beyond HB2.out hb3)
    clear RL2 HB2 hb3 N2 R3
    go_wp2_with fail
    go_loopw [9] (fun i wr => ∃ k : Nat, k ≤ L.length ∧ i = .int .i64 k ∧ Hid (RowL wr g L ∧ RowL wr g2 M ∧ Below w.heap.size w wr)) (fun i _ => L.length - (intOf i).toNat)
    case atStart => exact ⟨0, Nat.zero_le _, rfl, RL3.out, RM3.out, HB3.out⟩
    case round =>
      obtain ⟨k, hk, rfl, I⟩ := hrel
      clear RL3 RM3 HB3
      by_cases ck : k < L.length
      · have k0 : (0 : Int) ≤ (k : Int) := by omega
        have k1 : (k : Int) < (L.length : Int) := by omega
        have ck2 : k < M.length := by rw [LE.out]; exact ck
        obtain ⟨c0, c1, c2, -⟩ := I.out.1.2 k ck
        obtain ⟨d0, d1, d2, -⟩ := I.out.2.1.2 k ck2
        obtain ⟨m0, m1, m2⟩ := EA.out k ck ck2
        rw [m0] at d0
        rw [m1] at d1
        rw [m2] at d2
        clear m0 m1 m2 EA
        generalize L[k]'ck = x at *
        obtain ⟨x0, x1, x2, x3, x4⟩ := x
        simp only at c0 c1 c2 d0 d1 d2
        clear ck2
        go_wp2_with fail
        go_quiet (fail)
        go_wp2_with fail
        go_roundw
        case rel => exact ⟨k + 1, by omega, by go_num, I.out.1.later (below_drewN (Below.refl _ _) _), I.out.2.1.later (below_drewN (Below.refl _ _) _), below_drewN I.out.2.2 _⟩
        case measure => simp [intOf]; omega
      · obtain rfl : k = L.length := by omega
        have k1 : ¬ (L.length : Int) < (L.length : Int) := by omega
        have HK2 := hideR (kept_later HK.out I.out.2.2)
        have HB := hideR I.out.2.2
        clear I EA
        go_wp2_with fail
        refine (live_any _ HK2.out).mono ?_
        rintro e3 w3 ⟨rfl, hb3⟩
        have hb := beyond HB.out hb3
        clear hb3
        go_wp2_with fail
        go_ret
        exact ⟨rfl, hb⟩
end lexBack
end Go.Proofs.YtabjadbpllhgkaaDoor
