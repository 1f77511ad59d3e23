/-
  Reset, Unset, Free, Copy, Keep by both ways: one answer.
-/
import Derived.Test.YtfhfdpapppgfpaaGreatDoorOtCz
namespace Go.Proofs.YtfhfdpapppgfpaaGreatDoor
open Go.RowKit
set_option linter.unusedVariables false
set_option maxRecDepth 100000
theorem two_out {w : World} {fp fr : Nat} {ap ar : Array Value} {n m : Nat} {o : Option Row} (hn : n ≤ 8) (hm : m = (n + 1) * (n + 1)) (hz : ∀ c, o = some c → ZC n m c)
    (h1 : ∀ w', Below w.heap.size w w' → Tells w' n fp ap o) (h2 : ∀ w', Below w.heap.size w w' → Calls Tryz.prog fr ar w' fun e w'' => RefOut w'' n m e o ∧ Below w'.heap.size w' w'') : Two w fp ap fr ar := by
  cases o with
  | none =>
    refine ⟨10, none, fun w' hb => (h1 w' hb).mono fun e w'' ⟨⟨B, h3⟩, hb'⟩ => ⟨⟨none, h3, rfl⟩, hb'⟩, fun w' hb => (h2 w' hb).mono fun e w'' ⟨⟨B, h3⟩, hb'⟩ => ⟨⟨none, h3, rfl⟩, hb'⟩, zco_none⟩
  | some c =>
    refine ⟨0, some (n, c), fun w' hb => (h1 w' hb).mono fun e w'' ⟨⟨B, h3⟩, hb'⟩ => ?_, fun w' hb => (h2 w' hb).mono fun e w'' ⟨h3, hb'⟩ => ?_, fun n' c' h => ?_⟩
    · obtain ⟨b, -, h4, h5⟩ := h3
      exact ⟨⟨_, h4, hn, zc_32 hm (hz c rfl), b, rfl, h5⟩, hb'⟩
    · obtain ⟨B, b, h4, h5⟩ := h3
      rw [hm] at h5
      exact ⟨⟨_, h4, hn, b, B, rfl, h5⟩, hb'⟩
    · cases h
      rw [← hm]
      exact hz c rfl
theorem setE_cases {n : Nat} {x k : Int} (h : setE n x k = 0) : ∃ X : Nat, x = (X : Int) ∧ 1 ≤ X ∧ X ≤ n ∧ 0 ≤ k ∧ k ≤ 1048576 := by
  unfold setE at h
  split at h
  · rename_i h1
    have h1 := of_decide_eq_true h1
    split at h
    · exact ⟨x.toNat, by omega, by omega, by omega, by omega, by omega⟩
    · cases h
  · cases h
theorem clock_cases {n : Nat} {x : Int} (h : clockB n x = true) : ∃ X : Nat, x = (X : Int) ∧ 1 ≤ X ∧ X ≤ n := by
  have h1 := of_decide_eq_true h
  exact ⟨x.toNat, by omega, by omega, by omega⟩
/-- A clock is set. -/
theorem two_reset {w : World} {p q : Option Addr} {o : OZ} (x k : Int) (h1 : PZ w p o) (h2 : RZ w q o) (h3 : ZCo o) : Two w 7 #[.pointer p, .int .i64 x, .int .i64 k] 8 #[.pointer q, .int .i64 x, .int .i64 k] := by
  cases o with
  | none =>
    obtain rfl := h1
    obtain rfl := h2
    exact two_err 1 (fun w' _ => reset_err _ x k 1 w' (by decide) (settable_nil x k w')) (fun w' _ => same_w (rreset_nil _ _ w'))
  | some y =>
    obtain ⟨n, c⟩ := y
    obtain ⟨hn, h32, b, rfl, hZ⟩ := h1
    obtain ⟨-, r, B, rfl, hR⟩ := h2
    by_cases hE : setE n x k = 0
    · obtain ⟨X, rfl, x1, xn, k0, k1⟩ := setE_cases hE
      rcases h3 n c rfl with rfl | ⟨pm, hp⟩
      · refine two_out (o := some fun _ => 0) hn rfl (fun c hc => by cases hc; exact .inl rfl) (fun w' hb => ?_) (fun w' hb => rreset_empty r n _ B X k _ w' hn rfl (hR.past hb) rfl x1 xn k0 k1)
        have := reset_tells hn rfl (.inl rfl) x1 xn k0 k1 w' b (hZ.past hb)
        rw [rs_empty rfl x1] at this
        exact this
      · obtain ⟨e1, e2, e3⟩ := reset_same hn rfl hp x1 xn k0 k1
        refine two_out hn rfl (fun d hd => zc_drf hn rfl (right_rows rfl (zc_rsM hn rfl (.inr ⟨pm, hp⟩) x1 xn k0 k1)) hd) (fun w' hb => reset_tells hn rfl (.inr ⟨pm, hp⟩) x1 xn k0 k1 w' b (hZ.past hb)) (fun w' hb => ?_)
        rw [← e3]
        refine rreset_full r n _ B X k c pm w' hn rfl (hR.past hb) hp h32 x1 xn k0 k1 (fun a c' => ?_) e1 e2
        by_cases ca : a ≤ n ∧ c' ≤ n
        · rw [hp.rowMat rfl ca.1 ca.2]; exact hp.fin rfl ca.1 ca.2
        · unfold rowMat; rw [if_neg ca]; exact .inr ⟨by omega, by omega⟩
    · exact two_err _ (fun w' hb => reset_err _ x k _ w' (by simpa using hE) (settable_any b n c x k w' hn (hZ.past hb))) (fun w' hb => same_w (rreset_err x k (hR.past hb) hE))
/-- From where it is set. -/
theorem two_unset {w : World} {p q : Option Addr} {o : OZ} (x k : Int) (h1 : PZ w p o) (h2 : RZ w q o) (h3 : ZCo o) : Two w 10 #[.pointer p, .int .i64 x, .int .i64 k] 11 #[.pointer q, .int .i64 x, .int .i64 k] := by
  cases o with
  | none =>
    obtain rfl := h1
    obtain rfl := h2
    exact two_err 1 (fun w' _ => unset_err _ x k 1 w' (by decide) (settable_nil x k w')) (fun w' _ => same_w (runset_nil _ _ w'))
  | some y =>
    obtain ⟨n, c⟩ := y
    obtain ⟨hn, h32, b, rfl, hZ⟩ := h1
    obtain ⟨-, r, B, rfl, hR⟩ := h2
    by_cases hE : setE n x k = 0
    · obtain ⟨X, rfl, x1, xn, k0, k1⟩ := setE_cases hE
      obtain ⟨o', t1, t2, t3⟩ := unset_row hn rfl (h3 n c rfl) x1 xn k0 k1
      rcases h3 n c rfl with rfl | ⟨pm, hp⟩
      · have t4 := t3 _ (ex_empty rfl x1)
        obtain ⟨c1, -, -, -, f1, -, f2⟩ := free_row (x := X) hn rfl (.inl rfl : ZC n _ (fun _ => 0)) x1 xn
        rw [f2 rfl] at f1
        rw [f1] at t4
        subst t4
        exact two_out (o := some fun _ => 0) hn rfl (fun c hc => by cases hc; exact .inl rfl) (fun w' hb => t1 w' b (hZ.past hb)) (fun w' hb => runset_empty r n _ B X k _ w' hn rfl (hR.past hb) rfl x1 xn k0 k1)
      · obtain ⟨e1, e2⟩ := unset_same hn rfl hp x1 xn k0 k1
        have e3 := e2 o' t2 t3
        refine two_out hn rfl (fun d hd => ?_) (fun w' hb => t1 w' b (hZ.past hb)) (fun w' hb => ?_)
        · rw [← e3] at hd
          unfold ruZ at hd
          cases ec : rcl n (n + 1) (ruM X k (rowMat n (listOf c ((n + 1) * (n + 1))))) with
          | none => rw [ec] at hd; cases hd; exact .inl rfl
          | some q2 =>
            rw [ec] at hd
            obtain ⟨o1, o2⟩ := e1 q2 ec
            exact zc_of hn rfl o1 o2 hd
        · rw [← e3]
          exact runset_full r n _ B X k c pm w' hn rfl (hR.past hb) hp h32 x1 xn k0 k1 e1
    · exact two_err _ (fun w' hb => unset_err _ x k _ w' (by simpa using hE) (settable_any b n c x k w' hn (hZ.past hb))) (fun w' hb => same_w (runset_err x k (hR.past hb) hE))
/-- Clocks are any. -/
theorem two_free {w : World} {p q ad ad' : Option Addr} {o : OZ} {l : List Int} {cap cap' : Nat} (h1 : PZ w p o) (h2 : RZ w q o) (h3 : ZCo o) (hV : IntsAt w (.slice ad l.length cap) l) (hV' : IntsAt w (.slice ad' l.length cap') l) (hq : l.length ≤ 9223372036854775807) :
    Two w 12 #[.pointer p, .slice ad l.length cap] 13 #[.pointer q, .slice ad' l.length cap'] := by
  cases o with
  | none =>
    obtain rfl := h1
    obtain rfl := h2
    exact two_err 1 (fun w' _ => same_w (freeN_nil _ w')) (fun w' _ => same_w (rfreeZ_nil _ w'))
  | some y =>
    obtain ⟨n, c⟩ := y
    obtain ⟨hn, h32, b, rfl, hZ⟩ := h1
    obtain ⟨-, r, B, rfl, hR⟩ := h2
    have C1 : ∀ w', Below w.heap.size w w' → _ := fun w' hb => free_main b n l.length cap ad c l w' hn (hZ.past hb) h32 rfl (hV.past hb) hq
    cases ha : hasA n l l.length with
    | false =>
      refine two_err 12 (fun w' hb => (C1 w' hb).mono fun e w'' ⟨h, hb'⟩ => ⟨?_, hb'⟩) (fun w' hb => same_w (rfreeZ_err r n B l.length cap' ad' l _ w' (hR.past hb) rfl (hV'.past hb) hq ha))
      rcases h with ⟨-, h⟩ | ⟨h, -⟩
      · exact h
      · rw [ha] at h; cases h
    | true =>
      obtain ⟨c1, z1, -, hRM, hz, hF, h0⟩ := free_rowL hn rfl (h3 n c rfl) ha
      refine two_zone hn rfl hRM hz (fun w' hb => (C1 w' hb).mono fun e w'' ⟨h, hb'⟩ => ⟨?_, hb'⟩) (fun w' hb => ?_)
      · rcases h with ⟨h, -⟩ | ⟨-, h⟩
        · rw [ha] at h; cases h
        · exact h
      · rcases h3 n c rfl with rfl | ⟨pm, hp⟩
        · rw [h0 rfl]
          exact rfreeZ_empty r n _ B l.length cap' ad' l _ w' hn rfl (hR.past hb) rfl rfl (hV'.past hb) hq ha
        · obtain ⟨e1, e2, e3⟩ := free_same (l := l) hn rfl hp ha
          rw [(hF pm hp).1, ← e3]
          exact rfreeZ_full r n _ B l.length cap' ad' l c pm w' hn rfl (hR.past hb) hp h32 rfl (hV'.past hb) hq ha e1 e2
theorem and_clock {n : Nat} {x y : Int} (h : (clockB n x && clockB n y) = true) : clockB n x = true ∧ clockB n y = true := by simpa using h
/-- A clock is copied. -/
theorem two_copy {w : World} {p q : Option Addr} {o : OZ} (x y : Int) (h1 : PZ w p o) (h2 : RZ w q o) (h3 : ZCo o) : Two w 14 #[.pointer p, .int .i64 x, .int .i64 y] 15 #[.pointer q, .int .i64 x, .int .i64 y] := by
  cases o with
  | none =>
    obtain rfl := h1
    obtain rfl := h2
    exact two_err 1 (fun w' _ => same_w (copy_nil _ _ w')) (fun w' _ => same_w (rcopy_nil _ _ w'))
  | some z =>
    obtain ⟨n, c⟩ := z
    obtain ⟨hn, h32, b, rfl, hZ⟩ := h1
    obtain ⟨-, r, B, rfl, hR⟩ := h2
    have C1 : ∀ w', Below w.heap.size w w' → _ := fun w' hb => copy_main b n x y c w' hn (hZ.past hb) h32
    cases ha : (clockB n x && clockB n y) with
    | false =>
      refine two_err 12 (fun w' hb => (C1 w' hb).mono fun e w'' ⟨h, hb'⟩ => ⟨?_, hb'⟩) (fun w' hb => same_w (rcopy_err x y (hR.past hb) ha))
      rcases h with ⟨-, h⟩ | ⟨h, -⟩
      · exact h
      · rw [ha] at h; cases h
    | true =>
      obtain ⟨hx, hy⟩ := and_clock ha
      obtain ⟨X, rfl, x1, xn⟩ := clock_cases hx
      obtain ⟨Y, rfl, y1, yn⟩ := clock_cases hy
      have C2 : ∀ w', Below w.heap.size w w' → Calls Tryz.prog 14 #[.pointer (some ⟨b, 0, none⟩), .int .i64 X, .int .i64 Y] w' fun e w'' => OpsOut w'' w'.heap.size n e (folK X Y (n + 1) (folR X Y (oR n c ((n + 1) * (n + 1))))) ∧ Below w'.heap.size w' w'' := fun w' hb => (C1 w' hb).mono fun e w'' ⟨h, hb'⟩ => ⟨by
        rcases h with ⟨h, -⟩ | ⟨-, h⟩
        · rw [ha] at h; cases h
        · exact h, hb'⟩
      rcases h3 n c rfl with rfl | ⟨pm, hp⟩
      · have z0 : ∀ i j, i ≤ n → folK X Y (n + 1) (folR X Y (oR n (fun _ => 0) ((n + 1) * (n + 1)))) i j = 0 := fun i j hi => by rw [copy_at hi, oR_zero]
        exact two_zone hn rfl (fun i j hi hj => by rw [z0 i j hi]; exact right0) (pm_hollow rfl (z0 0 0 (by omega))) C2 (fun w' hb => rcopy_empty r n _ B X Y _ w' hn rfl (hR.past hb) rfl x1 xn y1 yn)
      · obtain ⟨e1, e2, e3⟩ := copy_same hn rfl hp x1 xn y1 yn
        obtain ⟨g1, g2⟩ := some_is (cpS X Y) hn rfl rfl hp (fun i hi => by unfold cpS; split <;> omega) (by unfold cpS; rw [if_neg (by omega)]) (fun i j hi hj => copy_at (t := X) (f := Y) (n := n) (r := oR n c ((n + 1) * (n + 1))) (j := j) hi)
        refine two_zone hn rfl g1 g2 C2 (fun w' hb => ?_)
        rw [← e3]
        exact rcopy_full r n _ B X Y c pm w' hn rfl (hR.past hb) hp h32 x1 xn y1 yn e1 e2
/-- Some clocks are kept alone. -/
theorem two_keep {w : World} {p q ad ad' : Option Addr} {o : OZ} {l : List Int} {cap cap' : Nat} (h1 : PZ w p o) (h2 : RZ w q o) (h3 : ZCo o) (hV : IntsAt w (.slice ad l.length cap) l) (hV' : IntsAt w (.slice ad' l.length cap') l) (hq : l.length ≤ 9223372036854775807) (hnil : ad = none → l.length = 0 ∧ cap = 0) :
    Two w 16 #[.pointer p, .slice ad l.length cap] 17 #[.pointer q, .slice ad' l.length cap'] := by
  cases o with
  | none =>
    obtain rfl := h1
    obtain rfl := h2
    exact two_err 1 (fun w' _ => same_w (keep_nil _ w')) (fun w' _ => same_w (rkeep_nil _ w'))
  | some y =>
    obtain ⟨n, c⟩ := y
    obtain ⟨hn, h32, b, rfl, hZ⟩ := h1
    obtain ⟨-, r, B, rfl, hR⟩ := h2
    have C1 : ∀ w', Below w.heap.size w w' → _ := fun w' hb => keep_main b n l.length cap ad c l w' hn (hZ.past hb) h32 rfl (hV.past hb) hq hnil
    by_cases q8 : 8 < l.length
    · refine two_err 6 (fun w' hb => (C1 w' hb).mono fun e w'' ⟨h, hb'⟩ => ⟨?_, hb'⟩) (fun w' hb => same_w (rkeep_long none r l.length cap' ad' w' q8))
      rcases h with ⟨-, h⟩ | ⟨h, -⟩ | ⟨h, -⟩
      · exact h
      · omega
      · omega
    · have q8' : l.length ≤ 8 := by omega
      cases ha : hasA n l l.length with
      | false =>
        refine two_err 12 (fun w' hb => (C1 w' hb).mono fun e w'' ⟨h, hb'⟩ => ⟨?_, hb'⟩) (fun w' hb => rkeep_err r n B l.length cap' ad' l _ w' (hR.past hb) rfl (hV'.past hb) q8' ha)
        rcases h with ⟨h, -⟩ | ⟨-, -, h⟩ | ⟨-, h, -⟩
        · omega
        · exact h
        · rw [ha] at h; cases h
      | true =>
        have C2 : ∀ w', Below w.heap.size w w' → Calls Tryz.prog 16 #[.pointer (some ⟨b, 0, none⟩), .slice ad l.length cap] w' fun e w'' => OpsOut w'' w'.heap.size l.length e (oR l.length (kpC l.length l (oR n c ((n + 1) * (n + 1)))) ((l.length + 1) * (l.length + 1))) ∧ Below w'.heap.size w' w'' := fun w' hb => (C1 w' hb).mono fun e w'' ⟨h, hb'⟩ => ⟨by
          rcases h with ⟨h, -⟩ | ⟨-, h, -⟩ | ⟨-, -, h⟩
          · omega
          · rw [ha] at h; cases h
          · exact h, hb'⟩
        rcases h3 n c rfl with rfl | ⟨pm, hp⟩
        · have z0 : ∀ i j, i ≤ l.length → j ≤ l.length → oR l.length (kpC l.length l (oR n (fun _ => 0) ((n + 1) * (n + 1)))) ((l.length + 1) * (l.length + 1)) i j = 0 := fun i j hi hj => by rw [kpO_at hi hj, oR_zero]
          exact two_zone q8' rfl (fun i j hi hj => by rw [z0 i j hi hj]; exact right0) (pm_hollow rfl (z0 0 0 (by omega) (by omega))) C2 (fun w' hb => rkeep_empty r n _ B l.length cap' ad' l _ w' rfl (hR.past hb) rfl rfl (hV'.past hb) q8' ha)
        · obtain ⟨e1, e2, e3⟩ := keep_same (l := l) hn q8' rfl hp ha
          obtain ⟨k1, k2⟩ := kp_sigma ha
          obtain ⟨g1, g2⟩ := some_is (kpI l) q8' rfl rfl hp k1 k2 (fun i j hi hj => kpO_at (l := l) (r := oR n c ((n + 1) * (n + 1))) hi hj)
          refine two_zone q8' rfl g1 g2 C2 (fun w' hb => ?_)
          rw [← e3]
          exact rkeep_full r n _ B l.length cap' ad' l c pm w' hn rfl (hR.past hb) hp h32 rfl (hV'.past hb) q8' ha e1 e2
end Go.Proofs.YtfhfdpapppgfpaaGreatDoor
