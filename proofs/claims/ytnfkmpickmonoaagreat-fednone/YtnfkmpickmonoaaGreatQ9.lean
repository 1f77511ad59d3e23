/-
  The contracts of dbm.Limits without limits, Universe, Zero.
-/
import Derived.Test.YtnfkmpickmonoaaGreatQ8
namespace Go.Proofs.YtnfkmpickmonoaaGreat
open Go.RowKit
set_option linter.unusedVariables false
set_option maxRecDepth 100000
set_option maxHeartbeats 1000000 in
theorem limits_none (n : Nat) (w : World) (h : n ≤ 8) :
    Calls Tryz.prog 44 #[.int .i64 n, .slice none 0 0] w fun e w' => Below w.heap.size w w' ∧ ZoneOut w' w.heap.size n e (zoneR n (startR n (n + 1) 0)) := by
  have H := hideD (mayYes n w h)
  have HD := hideD (draftOf_any n w h)
  go_enter Tryz.func44, Tryz.ntmps44
  go_wp2_with fail
  refine H.out.mono ?_
  rintro e w' ⟨rfl, rfl⟩
  go_wp2_with fail
  refine HD.out.mono ?_
  rintro e w1 ⟨rfl, hd, hb⟩
  have HZ := hideD (zone_any _ n _ w1 h hd)
  have hB := hideD hb
  clear hd hb H HD
  go_wp2_with fail
  go_loopw [16] (fun s wr => s = .int .i64 0 ∧ wr = w1) (fun s _ => 1)
  case atStart => exact ⟨rfl, rfl⟩
  case round =>
    obtain ⟨rfl, rfl⟩ := hrel
    go_wp2_with fail
    refine HZ.out.mono ?_
    rintro e' w3 ⟨hz, hb⟩
    have hB3 := hideD (hB.out.trans hb)
    have hsz := hB.out.size
    cases ez : zoneR n (startR n (n + 1) 0) with
    | none =>
      rw [ez] at hz
      obtain rfl := hz
      go_wp2_with fail
      exact bodyPost_ret (v := .tuple #[.pointer none, .int .i64 10]) (by simp [results, Tryz.results44, go_sem]) rfl ⟨hB3.out, by rw [ez]; exact rfl⟩
    | some c =>
      rw [ez] at hz
      obtain ⟨b', hb', rfl, hz⟩ := hz
      go_wp2_with fail
      exact bodyPost_ret (v := .tuple #[.pointer (some ⟨b', 0, none⟩), .int .i64 0]) (by simp [results, Tryz.results44, go_sem]) rfl ⟨hB3.out, by rw [ez]; exact ⟨b', Nat.le_trans hsz hb', rfl, hz⟩⟩
theorem universe_any (n : Nat) (w : World) (h : n ≤ 8) :
    Calls Tryz.prog 23 #[.int .i64 n] w fun e w' => Below w.heap.size w w' ∧ ZoneOut w' w.heap.size n e (zoneR n (startR n (n + 1) 0)) := by
  have H := hideD (limits_none n w h)
  go_enter Tryz.func23, Tryz.ntmps23
  go_wp2_with fail
  refine H.out.mono ?_
  rintro e' w3 ⟨hb, hz⟩
  cases ez : zoneR n (startR n (n + 1) 0) with
  | none =>
    rw [ez] at hz
    obtain rfl := hz
    go_wp2_with fail
    exact bodyPost_ret (v := .tuple #[.pointer none, .int .i64 10]) (by simp [results, Tryz.results23, go_sem]) rfl ⟨hb, by rw [ez]; exact rfl⟩
  | some c =>
    rw [ez] at hz
    obtain ⟨b', hb', rfl, hz⟩ := hz
    go_wp2_with fail
    exact bodyPost_ret (v := .tuple #[.pointer (some ⟨b', 0, none⟩), .int .i64 0]) (by simp [results, Tryz.results23, go_sem]) rfl ⟨hb, by rw [ez]; exact ⟨b', hb', rfl, hz⟩⟩
end Go.Proofs.YtnfkmpickmonoaaGreat
