/-
  The statement on lex.All: its walk.
-/
import Derived.Test.YtabjadbpllhgkaaDoorMp
namespace Go.Proofs.YtabjadbpllhgkaaDoor
open Go.RowKit
set_option linter.unusedVariables false
namespace lexAll
set_option maxRecDepth 100000 in
set_option maxHeartbeats 2000000 in
theorem walk (s : ByteArray) (_ : s.size ≤ maxLen) (w : World) (hk : Kept w) (hs0 : s.size ≤ 140737488355328) (hs : s.size ≤ 1048576) :
    Calls Tryd.prog 4 #[.string s] w fun e w' => e = .returned (.bool true) ∧ Below w.heap.size w w' := by
  have HK := hideR hk
  clear hk
  rcases both_all s (by omega) with ⟨e, a, he, hA, hX⟩ | ⟨hA, hX⟩
  · have N1 := hideR hA
    have N2 := hideR hX
    clear hA hX
    go_enter Tryd.func4, Tryd.ntmps4
    go_wp2_with fail
    refine (N1.out _).mono ?_
    rintro e1 w1 ⟨rfl, hb1⟩
    go_wp2_with fail
    refine (N2.out _).mono ?_
    rintro e2 w2 ⟨rfl, hb2⟩
    have HK2 := hideR (kept_later HK.out (beyond hb1 hb2))
    go_wp2_with fail
    refine (live_any _ HK2.out).mono ?_
    rintro e3 w3 ⟨rfl, hb3⟩
    have hb := beyond (beyond hb1 hb2) hb3
    clear hb1 hb2 hb3 HK HK2
    go_wp2_with fail
    go_loopw [9] (fun i wr => i = .int .i64 0 ∧ wr = w3) (fun _ _ => 0)
    case atStart => exact ⟨rfl, rfl⟩
    case round =>
      obtain ⟨rfl, rfl⟩ := hrel
      go_wp2_with fail
      go_ret
      exact ⟨rfl, hb⟩
  · have N1 := hideR hA
    have N2 := hideR hX
    have KI := hideR (fun x h => item_kind s (s.size + 1) 0 x h)
    have LN := items_count s (s.size + 1) 0
    change Hid (∀ x ∈ itemsL s, _) at KI
    change (itemsL s).length ≤ s.size + 1 at LN
    clear hA hX
    generalize itemsL s = L at *
    have LB : (L.length : Int) ≤ 1048577 := by omega
    go_enter Tryd.func4, Tryd.ntmps4
    go_wp2_with fail
    refine (N1.out _).mono ?_
    rintro e1 w1 ⟨g, cap, rfl, R1, hb1⟩
    go_wp2_with fail
    refine (N2.out _).mono ?_
    rintro e2 w2 ⟨g2, cap2, rfl, R2, hb2⟩
    have HK2 := hideR (kept_later HK.out (beyond hb1 hb2))
    have R12 := R1.later hb2
    go_wp2_with fail
    refine (live_any _ HK2.out).mono ?_
    rintro e3 w3 ⟨rfl, hb3⟩
    have HB := hideR (beyond (beyond hb1 hb2) hb3)
    have RL := hideR (R12.later hb3)
    have RX := hideR (R2.later hb3)
    clear hb1 hb2 hb3 HK HK2 R1 R2 R12 N1 N2
    go_wp2_with fail
    go_loopw [9] (fun i wr => ∃ k : Nat, k ≤ L.length ∧ i = .int .i64 k ∧ Hid (RowL wr g L ∧ RowX wr g2 L ∧ Below w.heap.size w wr)) (fun i _ => L.length - (intOf i).toNat)
    case atStart => exact ⟨0, Nat.zero_le _, rfl, RL.out, RX.out, HB.out⟩
    case round =>
      obtain ⟨k, hk, rfl, I⟩ := hrel
      clear RL RX HB
      by_cases ck : k < L.length
      · have k0 : (0 : Int) ≤ (k : Int) := by omega
        have k1 : (k : Int) < (L.length : Int) := by omega
        obtain ⟨c0, c1, c2, c3⟩ := I.out.1.2 k ck
        obtain ⟨d0, d1, d2, d3⟩ := I.out.2.1.2 k ck
        have kd := KI.out (L[k]'ck) (List.getElem_mem _)
        have SM := hideR (fun w => same_any (L[k]'ck).1 (L[k]'ck).2.1 (L[k]'ck).2.2.1 (L[k]'ck).2.2.2.1 kd.1 kd.2 w)
        clear kd
        generalize L[k]'ck = x at *
        obtain ⟨x0, x1, x2, x3, x4⟩ := x
        simp only at c0 c1 c2 c3 d0 d1 d2 d3 SM
        go_wp2_with fail
        go_region_with (go_at_call 12; refine (SM.out _).mono ?_; rintro e4 w4 ⟨rfl, hb4⟩)
        all_goals go_wp2_with fail
        all_goals
          have hb5 : Below wr.heap.size wr w4 := ⟨hb4.os, hb4.tape, hb4.output, hb4.size, hb4.block⟩
          go_roundw
          case rel => exact ⟨k + 1, by omega, by go_num, I.out.1.later hb5, I.out.2.1.later hb5, beyond I.out.2.2 hb5⟩
          case measure => simp [intOf]; omega
      · obtain rfl : k = L.length := by omega
        have k1 : ¬ (L.length : Int) < (L.length : Int) := by omega
        go_wp2_with fail
        go_ret
        exact ⟨rfl, I.out.2.2⟩
end lexAll
end Go.Proofs.YtabjadbpllhgkaaDoor
