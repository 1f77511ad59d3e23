/-
  The contracts of ops: has, exactly, settable.
-/
import Derived.Test.YtjanibholjimkaaQ22
namespace Go.Proofs.Ytjanibholjimkaa
open Go.RowKit
set_option linter.unusedVariables false
set_option maxRecDepth 100000
def clockB (n : Nat) (x : Int) : Bool := decide (1 ≤ x ∧ x ≤ n)
def hasA (n : Nat) (l : List Int) : Nat → Bool
  | 0 => true
  | k + 1 => hasA n l k && clockB n (l.getD k 0)
theorem hasA_false {n : Nat} {l : List Int} : ∀ {k : Nat} (m : Nat), k ≤ m → hasA n l k = false → hasA n l m = false := by
  intro k m h e
  induction m with
  | zero => obtain rfl : k = 0 := by omega
            exact e
  | succ m ih =>
    by_cases q : k = m + 1
    · subst q; exact e
    · simp [hasA, ih (by omega)]
set_option maxHeartbeats 1000000 in
theorem ohas_main (n b off cap q : Nat) (l : List Int) (w : World) (hn : n ≤ 8) (hq : l.length = q) (hby : q ≤ 9223372036854775807) (hc : ∀ j, j < q → w.cell? ⟨b, off + j, none⟩ = some (.int .i64 (l.getD j 0))) :
    Calls Try.prog 51 #[.agg #[.int .i64 n], .slice (some ⟨b, off, none⟩) q cap] w fun e w' => e = .returned (.bool (hasA n l q)) ∧ Below w.heap.size w w' := by
  have HC : Hid (∀ w', Below w.heap.size w w' → ∀ j, j < q → w'.cell? ⟨b, off + j, none⟩ = some (.int .i64 (l.getD j 0))) := fun w' hb j hj => kc _ _ hb (hc j hj)
  have B0 := hideD (below_one w (.cells #[.int .i64 n] 64))
  clear hc hq
  go_enter Try.func51, Try.ntmps51
  go_wp2_with fail
  have c0 : (w.alloc (.cells #[.int .i64 n] 64)).cell? ⟨w.heap.size, 0, none⟩ = some (.int .i64 n) := by simp [go_sem]
  generalize w.alloc (.cells #[.int .i64 n] 64) = w1 at *
  go_loopw [9] (fun s wr => ∃ (K : Nat), K ≤ q ∧ s = .int .i64 (K : Int) ∧ Hid (hasA n l K = true) ∧ wr = w1) (fun s _ => q - (intOf s).toNat)
  case atStart => exact ⟨0, by omega, rfl, rfl, rfl⟩
  case round =>
    obtain ⟨K, hK, rfl, hA, rfl⟩ := hrel
    by_cases ck : K < q
    · have k0 : (0 : Int) ≤ (K : Int) := by omega
      have k1 : (K : Int) < (q : Int) := by omega
      have c1 := HC.out _ B0.out K ck
      have st : Hid (hasA n l (K + 1) = clockB n (l.getD K 0)) := by show _ = _; simp [hasA, hA.out]
      generalize l.getD K 0 = x at *
      by_cases x1 : x < 1
      · have st3 : Hid (hasA n l q = false) := hasA_false (k := K + 1) q (by omega) (by rw [st.out]; simp [clockB]; omega)
        clear st
        go_wp2_with fail
        go_ret
        exact ⟨by rw [st3.out]; rfl, B0.out⟩
      · by_cases x2 : (n : Int) < x
        · have st3 : Hid (hasA n l q = false) := hasA_false (k := K + 1) q (by omega) (by rw [st.out]; simp [clockB]; omega)
          clear st
          go_wp2_with fail
          go_ret
          exact ⟨by rw [st3.out]; rfl, B0.out⟩
        · have st3 : Hid (hasA n l (K + 1) = true) := by show _ = _; rw [st.out]; simp [clockB]; omega
          clear st
          go_wp2_with fail
          go_roundw
          case rel => exact ⟨K + 1, by omega, by go_num, st3, by trivial⟩
          case measure => simp [intOf]; omega
    · have eK : K = q := by omega
      subst eK
      go_wp2_with fail
      go_ret
      exact ⟨by rw [hA.out]; rfl, B0.out⟩
theorem exactly_any (x n : Int) (w : World) (n0 : 0 ≤ n) (n1 : n ≤ 1048576) :
    Calls Try.prog 30 #[.int .i64 x, .int .i64 n] w fun e w' => (∃ g, e = .returned (.slice (some ⟨g, 0, none⟩) 2 2) ∧ w.heap.size ≤ g ∧ w'.cell? ⟨g, 0, none⟩ = some (.int .i64 x) ∧ w'.cell? ⟨g, 1, none⟩ = some (.int .i64 0) ∧ w'.cell? ⟨g, 2, none⟩ = some (.int .i32 (2 * n + 1)) ∧ w'.cell? ⟨g, 3, none⟩ = some (.int .i64 0) ∧ w'.cell? ⟨g, 4, none⟩ = some (.int .i64 x) ∧ w'.cell? ⟨g, 5, none⟩ = some (.int .i32 (-(2 * n) + 1))) ∧ Below w.heap.size w w' := by
  have H1 : Hid (∀ w, Calls Try.prog 52 #[.int .i64 x, .int .i64 0, .int .i64 n, .bool false] w fun e w' => e = .returned (.agg #[.int .i64 x, .int .i64 0, .int .i32 (2 * n + 1)]) ∧ Below w.heap.size w w') := fun w => by
    have := limitOf_any x 0 n false w
    rwa [show ofB n (!false) = 2 * n + 1 from by simp [ofB]; omega] at this
  have H2 : Hid (∀ w, Calls Try.prog 52 #[.int .i64 0, .int .i64 x, .int .i64 (-n), .bool false] w fun e w' => e = .returned (.agg #[.int .i64 0, .int .i64 x, .int .i32 (-(2 * n) + 1)]) ∧ Below w.heap.size w w') := fun w => by
    have := limitOf_any 0 x (-n) false w
    rwa [show ofB (-n) (!false) = -(2 * n) + 1 from by simp [ofB]; omega] at this
  have ng : wrap64 (-n) = -n := by unfold wrap64; omega
  have ng2 : IntKind.i64.wrap (-n) = -n := by rw [IntKind.wrap_i64]; omega
  go_enter Try.func30, Try.ntmps30
  go_wp2_with fail
  refine (H1.out _).mono ?_
  rintro e w1 ⟨rfl, hb1⟩
  go_wp2_with fail
  refine (H2.out _).mono ?_
  rintro e w2 ⟨rfl, hb2⟩
  have B2 := hideD (beyondD hb1 hb2)
  clear hb1 hb2 ng ng2
  go_wp2_with fail
  refine bodyPost_ret (v := .slice (some ⟨w2.heap.size, 0, none⟩) 2 2) (by simp [results, Try.results30, go_sem]) rfl ⟨⟨w2.heap.size, rfl, B2.out.size, ?_, ?_, ?_, ?_, ?_, ?_⟩, B2.out.alloc B2.out.size _⟩
  all_goals simp [go_sem]
def setE (n : Nat) (x k : Int) : Int := if clockB n x then (if 0 ≤ k ∧ k ≤ 1048576 then 0 else 13) else 12
theorem settable_any (b n : Nat) (c : Row) (x k : Int) (w : World) (hn : n ≤ 8) (hz : ZoneAt w b n c) :
    Calls Try.prog 28 #[.pointer (some ⟨b, 0, none⟩), .int .i64 x, .int .i64 k] w fun e w' => e = .returned (.int .i64 (setE n x k)) ∧ Below w.heap.size w w' := by
  have HD := hideD (dimZ_any b n w hz.clocks)
  have B1 := hideD (below_one w (.cells #[.int .i64 x] 3))
  have HH : Hid (Calls Try.prog 51 #[.agg #[.int .i64 n], .slice (some ⟨w.heap.size, 0, none⟩) 1 1] (w.alloc (.cells #[.int .i64 x] 3)) fun e w' => e = .returned (.bool (clockB n x)) ∧ Below (w.alloc (.cells #[.int .i64 x] 3)).heap.size (w.alloc (.cells #[.int .i64 x] 3)) w') := by
    have := ohas_main n w.heap.size 0 1 1 [x] (w.alloc (.cells #[.int .i64 x] 3)) hn rfl (by omega) (fun j hj => by
      obtain rfl : j = 0 := by omega
      simp [go_sem])
    rw [show hasA n [x] 1 = clockB n x from by simp [hasA]] at this
    exact this
  clear hz
  have fin : ∀ w', Below (w.alloc (.cells #[.int .i64 x] 3)).heap.size (w.alloc (.cells #[.int .i64 x] 3)) w' → Below w.heap.size w w' := fun w' hb => beyondD B1.out hb
  have FIN := hideD fin
  clear fin B1
  go_enter Try.func28, Try.ntmps28
  go_wp2_with fail
  refine HD.out.mono ?_
  rintro e w1 ⟨rfl, rfl⟩
  go_wp2_with fail
  refine HH.out.mono ?_
  rintro e w2 ⟨rfl, hb⟩
  have B2 := hideD (FIN.out _ hb)
  clear hb FIN HH HD
  cases cb : clockB n x with
  | false =>
    go_wp2_with fail
    go_ret
    exact ⟨by simp [setE, cb], B2.out⟩
  | true =>
    by_cases k0 : k < 0
    · go_wp2_with fail
      go_ret
      exact ⟨by rw [setE, cb, if_pos rfl, if_neg (by omega)]; rfl, B2.out⟩
    · by_cases k1 : 1048576 < k
      · go_wp2_with fail
        go_ret
        exact ⟨by rw [setE, cb, if_pos rfl, if_neg (by omega)]; rfl, B2.out⟩
      · go_wp2_with fail
        go_ret
        exact ⟨by rw [setE, cb, if_pos rfl, if_pos (by omega)]; rfl, B2.out⟩
end Go.Proofs.Ytjanibholjimkaa
