/-
  fed.limits, walked.
-/
import Derived.Test.YtnfkmpickmonoaaQ32
namespace Go.Proofs.Ytnfkmpickmonoaa
open Go.RowKit Go.Shelf
set_option linter.unusedVariables false
set_option maxRecDepth 100000
attribute [local go_sem] Oper.semAt_some
theorem limits_in (k b : Nat) (w : World) : CallsIn Fence.wide k Try.prog 78 #[.pointer (some ⟨b, 0, none⟩)] w fun e w' => e = .returned (.func (.func 94) #[] #[.pointer (some ⟨w.heap.size, 0, none⟩)]) ∧ w' = w.alloc (.cells #[.pointer (some ⟨b, 0, none⟩)] 30) := by
  refine callsIn_wide.2 ?_
  go_enter Try.func78, Try.ntmps78
  go_wp2
  go_ret
  exact ⟨rfl, rfl⟩
theorem two_ways {e : Ending} {p q : Prop} (h : (e = .returned (.bool true) ∧ p) ∨ (e = .returned (.bool false) ∧ q)) : ∃ r : Bool, e = .returned (.bool r) ∧ ((r = true ∧ p) ∨ (r = false ∧ q)) := by
  rcases h with ⟨h, h'⟩ | ⟨h, h'⟩
  · exact ⟨true, h, .inl ⟨rfl, h'⟩⟩
  · exact ⟨false, h, .inr ⟨rfl, h'⟩⟩
set_option maxHeartbeats 2000000 in
theorem limits1_in (k : Nat) (hk : 1 ≤ k) (n m : Nat) (hn : n ≤ 8) (hm : m = (n + 1) * (n + 1)) (c : Row) (l Bz b n₀ r : Nat) (X : Option Nat) (J Jx : List (Fin m) → World → Prop)
    (hY : ∀ pre x W, J pre W → pre.length < m → YieldAt Fence.wide (k - 1) Try.prog l (limVs (limAt n c x.val)) W fun e W' =>
      (e = .returned (.bool true) ∧ J (pre ++ [x]) W' ∧ KeepO n₀ r X W W') ∨ (e = .returned (.bool false) ∧ Jx (pre ++ [x]) W'))
    (W : World) (hJ : AbidesFrom W.heap.size J) (hBz : Boxed W Bz 30 (.pointer (some ⟨b, 0, none⟩))) (hz : ZoneAt W b n c) (hX : ∀ x, X = some x → x < W.heap.size) (hO : OwnLt r W) (h0 : J [] W) :
    CallsIn Fence.wide k Try.prog 94 #[.func (.yield l) #[] #[], .pointer (some ⟨Bz, 0, none⟩)] W fun e W' => (∃ v, e = .returned v) ∧
      ((∃ ys, ys = List.finRange m ∧ J ys W') ∨ (∃ pre, pre <+: List.finRange m ∧ Jx pre W')) := by
  have HD := hideD (zdim_any b n c W hz)
  have HC := hideD (cells_any b n c W hz hn)
  rw [← hm] at HC
  have hm1 : m ≤ 81 := by rw [hm]; exact Nat.mul_le_mul (show n + 1 ≤ 9 by omega) (show n + 1 ≤ 9 by omega)
  have bx := hBz.cell
  obtain ⟨s, hs⟩ : ∃ s : Int, s = (n : Int) + 1 := ⟨_, rfl⟩
  have ws : wrap64 ((n : Int) + 1) = s := by rw [hs]; unfold wrap64; omega
  have s0 : ¬ s = 0 := by omega
  have HS := hideD hs
  have HM := hideD hm
  have HN := hideD hn
  clear hz hBz hs hm hn
  refine callsIn_of_wp Try.func94 rfl trivial ?_ rfl
  simp only [Try.ntmps94, List.size_toArray, List.length_cons, List.length_nil, Nat.reduceAdd, Nat.reduceSub, Array.replicate_succ, Array.replicate_zero, List.push_toArray, List.append_toArray, List.nil_append, List.cons_append]
  gi_wp2
  refine ⟨trivial, (callsIn_wide.2 HD.out).mono ?_⟩
  rintro e w1 ⟨rfl, e1⟩
  obtain rfl := e1.symm
  gi_wp2
  refine ⟨trivial, (callsIn_wide.2 HC.out).mono ?_⟩
  rintro e w1 ⟨⟨v, rfl, g, cap, rfl, g0, g1, hrow⟩, hb⟩
  rw [listOf_len]
  have hJ1 : Hid (J [] w1) := hJ _ _ _ none h0 (grown_below hb (Nat.le_refl _)) (by simp)
  have hgS : Hid (Safe r X w1 g) := Safe.fresh hO hb hX g0
  have hr1 : Hid (∀ j, j < m → w1.cell? ⟨g, j, none⟩ = some (.int .i32 (c j))) := fun j hj => by
    have h := hrow j (by rw [listOf_len]; exact hj)
    rw [listOf_get _ _ _ hj, Nat.zero_add] at h
    exact h
  have HY := hideD hY
  have HJ := hideD hJ
  clear HD HC hrow hb hJ hX h0 hY bx hO
  gi_wp2
  gi_loopw [12] (fun i wr => ∃ (K : Nat), i = .int .i64 (K : Int) ∧ K ≤ m ∧ Hid (∀ j, j < m → wr.cell? ⟨g, j, none⟩ = some (.int .i32 (c j))) ∧ Hid (Safe r X wr g ∧ g < wr.heap.size) ∧ Hid (J (finsL m K) wr))
    (fun i _ => m - (intOf i).toNat)
  case atStart => exact ⟨0, rfl, Nat.zero_le _, hr1, ⟨hgS.out, g1⟩, hJ1⟩
  case round =>
    obtain ⟨K, rfl, hK, R, SF, E⟩ := hrel
    by_cases ck : K < m
    · have c0 := R.out K ck
      have k0 : (K : Int) < (m : Int) := by omega
      have q1 : wrap64 ((K : Int).tdiv s) = ((K / (n + 1) : Nat) : Int) := by
        have := Nat.div_le_self K (n + 1)
        rw [HS.out, show ((n : Int) + 1) = ((n + 1 : Nat) : Int) by omega, Int.tdiv_eq_ediv_of_nonneg (by omega), ← Int.natCast_ediv]
        generalize K / (n + 1) = z at *
        unfold wrap64
        omega
      have q3 : IntKind.i64.wrap ((K : Int).tdiv s) = ((K / (n + 1) : Nat) : Int) := by rw [← q1, IntKind.wrap_i64, wrap64]
      have q4 : IntKind.i64.wrap ((K : Int) / s) = ((K / (n + 1) : Nat) : Int) := by
        rw [← q3, Int.tdiv_eq_ediv_of_nonneg (by omega)]
      have mixed : Try.prog.follows Departure.mixedOrders = true := by kernel_rfl
      have q2 : (K : Int).tmod s = ((K % (n + 1) : Nat) : Int) := by
        rw [HS.out, show ((n : Int) + 1) = ((n + 1 : Nat) : Int) by omega, Int.tmod_eq_emod_of_nonneg (by omega), ← Int.natCast_emod]
      obtain ⟨fn, tmps, assign, body, hy, hR⟩ := HY.out (finsL m K) ⟨K, ck⟩ wr.drew (HJ.out _ _ _ none E.out (grown_below (Below.drew (Below.refl wr.heap.size wr)) (Nat.le_refl _)) (by simp)) (by rw [fins_len hK]; exact ck)
      have LN := hideD (fins_next ck)
      have e3 : Hid (limAt n c K = (K / (n + 1), K % (n + 1), c K)) := rfl
      rw [show limAt n c (Fin.val ⟨K, ck⟩) = (K / (n + 1), K % (n + 1), c K) from rfl] at hy
      simp only [limVs] at hy
      generalize hx : c K = x at *
      generalize hi : K / (n + 1) = i at *
      generalize hj : K % (n + 1) = j at *
      gi_wp2
      gi_region_with_o (refine hR.mono ?_; rintro e W3 h3; obtain ⟨r, rfl, h4⟩ := two_ways h3; have H4 := hideD h4; clear h4 h3 hR hy)
      rcases H4.out with ⟨rfl, hJ3, hk3⟩ | ⟨rfl, hJx3⟩
      · have R3 : Hid (∀ j, j < m → W3.cell? ⟨g, j, none⟩ = some (.int .i32 (c j))) := fun j hj => hk3.cell SF.out.1 (R.out j hj)
        have E3 : Hid (J (finsL m (K + 1)) W3) := by show J _ _; rw [LN.out]; exact hJ3
        have S3 : Hid (Safe r X W3 g ∧ g < W3.heap.size) := ⟨Safe.keep (W := wr.drew) (show Safe r X wr.drew g from SF.out.1) hk3 SF.out.2, Nat.lt_of_lt_of_le SF.out.2 hk3.below.size⟩
        clear hk3 hJ3 H4 R E q1 q2 q3 q4 c0 SF
        gi_wp2
        go_roundw
        case rel => exact ⟨K + 1, by go_num, by omega, R3, S3, E3⟩
        case measure => simp [intOf]; omega
      · have E3 : Hid (finsL m (K + 1) <+: List.finRange m ∧ Jx (finsL m (K + 1)) W3) := ⟨List.take_prefix _ _, by rw [LN.out]; exact hJx3⟩
        clear hJx3 H4 R E q1 q2 q3 q4 c0
        gi_wp2
        refine bodyPost_ret (results_none rfl _ _ _) rfl ?_
        exact ⟨⟨_, rfl⟩, .inr ⟨_, E3.out.1, E3.out.2⟩⟩
    · have eK : K = m := by omega
      have E3 : Hid (J (List.finRange m) wr) := by
        show J _ _
        rw [← fins_all]
        have e := E.out
        rw [eK] at e
        exact e
      have ck' : ¬ (K : Int) < (m : Int) := by omega
      clear R E eK
      gi_wp2
      go_end0
      first | exact ⟨⟨_, rfl⟩, .inl E3.out⟩ | exact ⟨⟨_, rfl⟩, .inl ⟨_, rfl, E3.out⟩⟩
end Go.Proofs.Ytnfkmpickmonoaa
