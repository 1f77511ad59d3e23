/-
  The walk of the statement DbmCells.
-/
import Derived.Test.YtpbjodmbpejcnaaEl
namespace Go.Proofs.Ytpbjodmbpejcnaa
open Go.RowKit
set_option linter.unusedVariables false
set_option maxRecDepth 100000
theorem SliceAt.later {w w' : World} {v : Value} {l : List Int} (h : SliceAt w v l) (hb : Below w.heap.size w w') : SliceAt w' v l := by
  rcases h with h | ⟨b, off, cap, rfl, hc⟩
  · exact .inl h
  · exact .inr ⟨b, off, cap, rfl, fun j hj => kc _ _ hb (hc j hj)⟩
theorem wf_list {l : List Int} (wf : ∀ z ∈ l, (Lit.int .i32 z).wf = true) : ∀ j, j < l.length → -2147483648 ≤ l.getD j 0 ∧ l.getD j 0 ≤ 2147483647 := fun j hj => by
  have e : l.getD j 0 = l[j] := by simp [List.getD, hj]
  rw [e]
  exact bounds_i32 (wf _ (List.getElem_mem hj))
namespace dbmCells
set_option maxHeartbeats 4000000 in
theorem walk (n : Int) (hn : (Lit.int .i64 n).wf = true) (v : Value) (l : List Int) (i : Int) (hi : (Lit.int .i64 i).wf = true) (j : Int) (hj : (Lit.int .i64 j).wf = true) (w : World) (hS : SliceAt w v l) (wf : ∀ z ∈ l, (Lit.int .i32 z).wf = true) (hby : l.length * 4 ≤ 140737488355328) (hnil : ∀ {c}, v = .slice none 0 c → c = 0) :
    Calls Try.prog 4 #[.int .i64 n, v, .agg #[.int .i64 i, .int .i64 j]] w fun e w' => e = .returned (.bool true) ∧ Below w.heap.size w w' := by
  have HB : Hid (∀ w', Below w.heap.size w w' → Calls Try.prog 8 #[.int .i64 n, v] w' fun x w'' => BothOut w'' w'.heap.size n x ∧ Below w'.heap.size w' w'') := fun w' hb => both_any n v l w' (hS.later hb) (wf_list wf) (by omega)
  clear hS wf hby hnil hn hi hj
  go_enter Try.func4, Try.ntmps4
  go_wp2_with fail
  have b0 := below_one w (.cells #[.int .i64 i, .int .i64 j] 43)
  refine (HB.out _ b0).mono ?_
  rintro x w1 ⟨hx, hb⟩
  have s0 := kc ⟨w.heap.size, 0, none⟩ (.int .i64 i) hb (by simp [go_sem])
  have s1 := kc ⟨w.heap.size, 1, none⟩ (.int .i64 j) hb (by simp [go_sem])
  have B1 := hideD (beyondD b0 hb)
  clear HB hb b0
  rcases hx with rfl | ⟨N, c, b, r, rfl, N8, rfl, lb, hz, hr⟩
  · go_wp2_with fail
    refine (cellN_nil i j _).mono ?_
    rintro x w2 ⟨rfl, hb⟩
    have t0 := kc _ _ hb s0
    have t1 := kc _ _ hb s1
    have B2 := hideD (beyondD B1.out hb)
    clear hb s0 s1 B1
    go_wp2_with fail
    refine (rcellN_nil i j _).mono ?_
    rintro x w3 ⟨rfl, hb⟩
    have B3 := hideD (beyondD B2.out hb)
    clear hb t0 t1 B2
    go_wp2_with fail
    refine (live_any _).mono ?_
    rintro x w4 ⟨rfl, hb⟩
    go_wp2_with fail
    go_ret
    exact ⟨rfl, beyondD B3.out hb⟩
  · obtain ⟨g, cap, r0, r1, r2, r3, r4⟩ := hr
    by_cases hin : 0 ≤ i ∧ i ≤ N ∧ 0 ≤ j ∧ j ≤ N
    · obtain ⟨i', rfl⟩ := Int.eq_ofNat_of_zero_le hin.1
      obtain ⟨j', rfl⟩ := Int.eq_ofNat_of_zero_le hin.2.2.1
      have hc := hideD (cell_in b N i' j' c w1 N8 hz (by omega) (by omega))
      have lt := pos_lt (n := N) (i := i') (j := j') (by omega) (by omega)
      have hrc : Hid (∀ w', Below w1.heap.size w1 w' → Calls Try.prog 24 #[.pointer (some ⟨r, 0, none⟩), .int .i64 i', .int .i64 j'] w' fun e w'' => e = .returned (.tuple #[.int .i32 (c (i' * (N + 1) + j')), .int .i64 0]) ∧ Below w'.heap.size w' w'') := fun w' hb => by
        have g0 := r4 (i' * (N + 1) + j') (by rw [listOf_len]; exact lt)
        rw [listOf_get _ _ _ lt] at g0
        rw [listOf_len] at r1
        exact rcell_in r g N i' j' _ cap _ w' N8 (by omega) (by omega) rfl (kc _ _ hb r0) (kc _ _ hb r1) (by have := kc _ _ hb g0; simpa using this)
      clear hz r0 r1 r2 r3 r4 hin lt
      generalize c (i' * (N + 1) + j') = x at *
      generalize (i' : Int) = i at *
      generalize (j' : Int) = j at *
      go_wp2_with fail
      refine hc.out.mono ?_
      rintro e w2 ⟨rfl, hb⟩
      have hrc' := hideD (hrc.out _ hb)
      have t0 := kc _ _ hb s0
      have t1 := kc _ _ hb s1
      have B2 := hideD (beyondD B1.out hb)
      clear hb s0 s1 B1 hrc hc
      go_wp2_with fail
      refine hrc'.out.mono ?_
      rintro e w3 ⟨rfl, hb⟩
      have B3 := hideD (beyondD B2.out hb)
      clear hb t0 t1 B2 hrc'
      go_wp2_with fail
      refine (live_any _).mono ?_
      rintro e w4 ⟨rfl, hb⟩
      go_wp2_with fail
      go_ret
      exact ⟨rfl, beyondD B3.out hb⟩
    · have hc := hideD (cell_out b N c i j w1 hz hin)
      have hrc : Hid (∀ w', Below w1.heap.size w1 w' → Calls Try.prog 24 #[.pointer (some ⟨r, 0, none⟩), .int .i64 i, .int .i64 j] w' fun e w'' => e = .returned (.tuple #[.int .i32 0, .int .i64 12]) ∧ Below w'.heap.size w' w'') := fun w' hb => rcell_out r N i j w' (kc _ _ hb r0) hin
      clear hz r0 r1 r2 r3 r4 hin
      go_wp2_with fail
      refine hc.out.mono ?_
      rintro e w2 ⟨rfl, hb⟩
      have hrc' := hideD (hrc.out _ hb)
      have t0 := kc _ _ hb s0
      have t1 := kc _ _ hb s1
      have B2 := hideD (beyondD B1.out hb)
      clear hb s0 s1 B1 hrc hc
      go_wp2_with fail
      refine hrc'.out.mono ?_
      rintro e w3 ⟨rfl, hb⟩
      have B3 := hideD (beyondD B2.out hb)
      clear hb t0 t1 B2 hrc'
      go_wp2_with fail
      refine (live_any _).mono ?_
      rintro e w4 ⟨rfl, hb⟩
      go_wp2_with fail
      go_ret
      exact ⟨rfl, beyondD B3.out hb⟩
end dbmCells
end Go.Proofs.Ytpbjodmbpejcnaa
