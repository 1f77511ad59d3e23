/-
  point.limits: its walk over the cells of a zone, for every loop that ranges over it.
-/
import Derived.RangeFuncNested
import Derived.RangeFuncBound
import Derived.RangeFuncCalls
import Derived.RangeFuncLeaves
import Derived.Shelf.Abstract
import Derived.Shelf.RegionOpen
import Derived.WalkKit
import Derived.OwnWalkIn
import Derived.TacticsInMore
import Derived.LoopNIn
import Derived.LoopIn
import Derived.Maps.AppendAt
import Derived.Maps.OwnIn
import Derived.Test.YtnfkmpickmonoaaGreatQ4
import Derived.Test.YtnfkmpickmonoaaGreatQ38
namespace Go.Proofs.YtnfkmpickmonoaaGreat
open Go.RowKit Go.Shelf
set_option linter.unusedVariables false
set_option maxRecDepth 100000
attribute [local go_sem] Oper.semAt_some
theorem dim_any (b n : Nat) (c : Row) (w : World) (hz : ZoneAt w b n c) : Calls Tryz.prog 30 #[.pointer (some ⟨b, 0, none⟩)] w fun e w' => e = .returned (.int .i64 n) ∧ w' = w := by
  have h := hz.clocks
  clear hz
  go_enter Tryz.func30, Tryz.ntmps30
  go_wp2_with fail
  go_ret
  exact ⟨rfl, rfl⟩
/-- What is yielded: two numbers and a bound. -/
abbrev Lim6 := Nat × Nat × Int
abbrev limVs6 (x : Lim6) : Array Value := #[.agg #[.int .i64 (x.1 : Int), .int .i64 (x.2.1 : Int), .int .i32 x.2.2]]
def limAt6 (n : Nat) (c : Row) (k : Nat) : Lim6 := (k / (n + 1), k % (n + 1), c k)
/-- The first numbers. -/
def finsL6 (m K : Nat) : List (Fin m) := (List.finRange m).take K
theorem fins_len6 {m K : Nat} (h : K ≤ m) : (finsL6 m K).length = K := by simp [finsL6, h]
theorem fins_next6 {m K : Nat} (h : K < m) : finsL6 m (K + 1) = finsL6 m K ++ [⟨K, h⟩] := by
  unfold finsL6
  rw [List.take_add_one]
  congr 1
  rw [List.getElem?_eq_getElem (by simpa using h)]
  simp
theorem fins_all6 (m : Nat) : finsL6 m m = List.finRange m := by
  unfold finsL6
  exact List.take_of_length_le (by simp)
/-- All blocks of cells stay, one aside. -/
structure KeepB (n₀ : Nat) (X : Option Nat) (W W' : World) : Prop where
  below : Below n₀ W W'
  same : ∀ b o, W.heap[b]? = some o → o.isCells = true → some b ≠ X → W'.heap[b]? = some o
theorem KeepB.trans {n₀ : Nat} {X : Option Nat} {A B C : World} (h : KeepB n₀ X A B) (k : KeepB n₀ X B C) : KeepB n₀ X A C :=
  ⟨h.below.trans k.below, fun b o hb ho hne => k.same b o (h.same b o hb ho hne) ho hne⟩
theorem KeepB.put {n₀ : Nat} {X : Option Nat} {w : World} (hn : n₀ ≤ w.heap.size) (W : World) (l : Nat) (o o' : Obj) (hl : w.heap.size ≤ l) (h : W.heap[l]? = some o) (hc : o.isCells = false) (hw : o.isWalk = false) : KeepB n₀ X W (W.putObj l o') :=
  ⟨belowK_b hn W l o o' hl h hc hw, fun b p hb hp _ => by
    have := grownBy_putObj' W l o'
    rw [this.block b (Array.getElem?_eq_some_iff.1 hb).1 (fun q => by
      injection q with q
      subst q
      rw [hb] at h
      injection h with h
      rw [h] at hp
      rw [hp] at hc
      cases hc)]
    exact hb⟩
theorem KeepB.alloc {n₀ : Nat} {X : Option Nat} (W : World) (o : Obj) (hn : n₀ ≤ W.heap.size) : KeepB n₀ X W (W.alloc o) :=
  have hb : Below W.heap.size W (W.alloc o) := Below.alloc (Below.refl _ _) (Nat.le_refl _) _
  ⟨hb.mono hn, fun b p hb' _ _ => (hb.block b (Array.getElem?_eq_some_iff.1 hb').1).trans hb'⟩
theorem KeepB.of {n₀ : Nat} {X : Option Nat} {W W' : World} (hb : Below W.heap.size W W') (hn : n₀ ≤ W.heap.size) : KeepB n₀ X W W' :=
  ⟨hb.mono hn, fun b p hb' _ _ => (hb.block b (Array.getElem?_eq_some_iff.1 hb').1).trans hb'⟩
theorem cells_of_cell6 {w : World} {g k : Nat} {v : Value} (h : w.cell? ⟨g, k, none⟩ = some v) : ∃ o, w.heap[g]? = some o ∧ o.isCells = true := by
  unfold World.cell? at h
  cases e : w.heap[g]? with
  | none => simp [e] at h
  | some o =>
    refine ⟨o, rfl, ?_⟩
    cases o <;> simp_all [Obj.isCells]
theorem KeepB.cell {n₀ : Nat} {X : Option Nat} {W W' : World} (h : KeepB n₀ X W W') {g k : Nat} {v : Value} (hc : W.cell? ⟨g, k, none⟩ = some v) (hX : some g ≠ X) : W'.cell? ⟨g, k, none⟩ = some v := by
  obtain ⟨o, ho, hi⟩ := cells_of_cell6 hc
  rw [World.cell?_of_block (a := ⟨g, k, none⟩) ((h.same g o ho hi hX).trans ho.symm)]
  exact hc
theorem grown_below6 {B : Nat} {W W' : World} (h : Below B W W') (hB : W.heap.size ≤ B) : W.grownBy W' none := ⟨h.os, h.tape, h.output, h.size, fun k hk _ => h.block k (by omega)⟩
theorem limits_in6 (k b : Nat) (w : World) : CallsIn Fence.wide k Tryz.prog 75 #[.pointer (some ⟨b, 0, none⟩)] w fun e w' => e = .returned (.func (.func 102) #[] #[.pointer (some ⟨w.heap.size, 0, none⟩)]) ∧ w' = w.alloc (.cells #[.pointer (some ⟨b, 0, none⟩)] 41) := by
  refine callsIn_wide.2 ?_
  go_enter Tryz.func75, Tryz.ntmps75
  go_wp2
  go_ret
  exact ⟨rfl, rfl⟩
theorem two_ways6 {e : Ending} {p q : Prop} (h : (e = .returned (.bool true) ∧ p) ∨ (e = .returned (.bool false) ∧ q)) : ∃ r : Bool, e = .returned (.bool r) ∧ ((r = true ∧ p) ∨ (r = false ∧ q)) := by
  rcases h with ⟨h, h'⟩ | ⟨h, h'⟩
  · exact ⟨true, h, .inl ⟨rfl, h'⟩⟩
  · exact ⟨false, h, .inr ⟨rfl, h'⟩⟩
set_option maxHeartbeats 2000000 in
theorem limits1_in6 (k : Nat) (hk : 1 ≤ k) (n m : Nat) (hn : n ≤ 8) (hm : m = (n + 1) * (n + 1)) (c : Row) (l Bz b n₀ : Nat) (X : Option Nat) (J Jx : List (Fin m) → World → Prop)
    (hY : ∀ pre x W, J pre W → pre.length < m → YieldAt Fence.wide (k - 1) Tryz.prog l (limVs6 (limAt6 n c x.val)) W fun e W' =>
      (e = .returned (.bool true) ∧ J (pre ++ [x]) W' ∧ KeepB n₀ X W W') ∨ (e = .returned (.bool false) ∧ Jx (pre ++ [x]) W'))
    (W : World) (hJ : AbidesFrom W.heap.size J) (hBz : Boxed W Bz 41 (.pointer (some ⟨b, 0, none⟩))) (hz : ZoneAt W b n c) (hX : ∀ x, X = some x → x < W.heap.size) (h0 : J [] W) :
    CallsIn Fence.wide k Tryz.prog 102 #[.func (.yield l) #[] #[], .pointer (some ⟨Bz, 0, none⟩)] W fun e W' => (∃ v, e = .returned v) ∧
      ((∃ ys, ys = List.finRange m ∧ J ys W') ∨ (∃ pre, pre <+: List.finRange m ∧ Jx pre W')) := by
  have HD := hideR (dim_any b n c W hz)
  have HC := hideR (cells_any b n c W hz hn)
  rw [← hm] at HC
  have hm1 : m ≤ 81 := by rw [hm]; exact Nat.mul_le_mul (show n + 1 ≤ 9 by omega) (show n + 1 ≤ 9 by omega)
  have bx := hBz.cell
  obtain ⟨s, hs⟩ : ∃ s : Int, s = (n : Int) + 1 := ⟨_, rfl⟩
  have ws : wrap64 ((n : Int) + 1) = s := by rw [hs]; unfold wrap64; omega
  have s0 : ¬ s = 0 := by omega
  have HS := hideR hs
  have HM := hideR hm
  have HN := hideR hn
  clear hz hBz hs hm hn
  refine callsIn_of_wp Tryz.func102 rfl trivial ?_ rfl
  simp only [Tryz.ntmps102, List.size_toArray, List.length_cons, List.length_nil, Nat.reduceAdd, Nat.reduceSub, Array.replicate_succ, Array.replicate_zero, List.push_toArray, List.append_toArray, List.nil_append, List.cons_append]
  gi_wp2
  refine ⟨trivial, (callsIn_wide.2 HD.out).mono ?_⟩
  rintro e w1 ⟨rfl, e1⟩
  obtain rfl := e1.symm
  gi_wp2
  refine ⟨trivial, (callsIn_wide.2 HC.out).mono ?_⟩
  rintro e w1 ⟨⟨v, rfl, g, cap, rfl, g0, g1, hrow⟩, hb⟩
  rw [listOf_len]
  have hJ1 : Hid (J [] w1) := hJ _ _ _ none h0 (grown_below6 hb (Nat.le_refl _)) (by simp)
  have hgX : Hid (some g ≠ X) := fun e => by have := hX g e.symm; omega
  have hr1 : Hid (∀ j, j < m → w1.cell? ⟨g, j, none⟩ = some (.int .i32 (c j))) := fun j hj => by
    have h := hrow j (by rw [listOf_len]; exact hj)
    rw [listOf_get _ _ _ hj, Nat.zero_add] at h
    exact h
  have HY := hideR hY
  have HJ := hideR hJ
  clear HD HC hrow hb hJ hX h0 hY bx
  gi_wp2
  gi_loopw [12] (fun i wr => ∃ (K : Nat), i = .int .i64 (K : Int) ∧ K ≤ m ∧ Hid (∀ j, j < m → wr.cell? ⟨g, j, none⟩ = some (.int .i32 (c j))) ∧ Hid (J (finsL6 m K) wr))
    (fun i _ => m - (intOf i).toNat)
  case atStart => exact ⟨0, rfl, Nat.zero_le _, hr1, hJ1⟩
  case round =>
    obtain ⟨K, rfl, hK, R, E⟩ := hrel
    by_cases ck : K < m
    · have c0 := R.out K ck
      have k0 : (K : Int) < (m : Int) := by omega
      have q1 : wrap64 ((K : Int).tdiv s) = ((K / (n + 1) : Nat) : Int) := by
        have := Nat.div_le_self K (n + 1)
        rw [HS.out, show ((n : Int) + 1) = ((n + 1 : Nat) : Int) by omega, Int.tdiv_eq_ediv_of_nonneg (by omega), ← Int.natCast_ediv]
        generalize K / (n + 1) = z at *
        unfold wrap64
        omega
      have q3 : IntKind.i64.wrap ((K : Int).tdiv s) = ((K / (n + 1) : Nat) : Int) := by rw [← q1, IntKind.wrap_i64, wrap64]
      have q4 : IntKind.i64.wrap ((K : Int) / s) = ((K / (n + 1) : Nat) : Int) := by
        rw [← q3, Int.tdiv_eq_ediv_of_nonneg (by omega)]
      have mixed : Tryz.prog.follows Departure.mixedOrders = true := by kernel_rfl
      have q2 : (K : Int).tmod s = ((K % (n + 1) : Nat) : Int) := by
        rw [HS.out, show ((n : Int) + 1) = ((n + 1 : Nat) : Int) by omega, Int.tmod_eq_emod_of_nonneg (by omega), ← Int.natCast_emod]
      obtain ⟨fn, tmps, assign, body, hy, hR⟩ := HY.out (finsL6 m K) ⟨K, ck⟩ wr.drew (HJ.out _ _ _ none E.out (grown_below6 (Below.drew (Below.refl wr.heap.size wr)) (Nat.le_refl _)) (by simp)) (by rw [fins_len6 hK]; exact ck)
      have LN := hideR (fins_next6 ck)
      have e3 : Hid (limAt6 n c K = (K / (n + 1), K % (n + 1), c K)) := rfl
      rw [show limAt6 n c (Fin.val ⟨K, ck⟩) = (K / (n + 1), K % (n + 1), c K) from rfl] at hy
      simp only [limVs6] at hy
      generalize hx : c K = x at *
      generalize hi : K / (n + 1) = i at *
      generalize hj : K % (n + 1) = j at *
      gi_wp2
      gi_region_with_o (refine hR.mono ?_; rintro e W3 h3; obtain ⟨r, rfl, h4⟩ := two_ways6 h3; have H4 := hideR h4; clear h4 h3 hR hy)
      rcases H4.out with ⟨rfl, hJ3, hk3⟩ | ⟨rfl, hJx3⟩
      · have R3 : Hid (∀ j, j < m → W3.cell? ⟨g, j, none⟩ = some (.int .i32 (c j))) := fun j hj => hk3.cell (R.out j hj) hgX.out
        have E3 : Hid (J (finsL6 m (K + 1)) W3) := by show J _ _; rw [LN.out]; exact hJ3
        clear hk3 hJ3 H4 R E q1 q2 q3 q4 c0
        gi_wp2
        go_roundw
        case rel => exact ⟨K + 1, by go_num, by omega, R3, E3⟩
        case measure => simp [intOf]; omega
      · have E3 : Hid (finsL6 m (K + 1) <+: List.finRange m ∧ Jx (finsL6 m (K + 1)) W3) := ⟨List.take_prefix _ _, by rw [LN.out]; exact hJx3⟩
        clear hJx3 H4 R E q1 q2 q3 q4 c0
        gi_wp2
        refine bodyPost_ret (results_none rfl _ _ _) rfl ?_
        exact ⟨⟨_, rfl⟩, .inr ⟨_, E3.out.1, E3.out.2⟩⟩
    · have eK : K = m := by omega
      have E3 : Hid (J (List.finRange m) wr) := by
        show J _ _
        rw [← fins_all6]
        have e := E.out
        rw [eK] at e
        exact e
      have ck' : ¬ (K : Int) < (m : Int) := by omega
      clear R E eK
      gi_wp2
      go_end0
      first | exact ⟨⟨_, rfl⟩, .inl E3.out⟩ | exact ⟨⟨_, rfl⟩, .inl ⟨_, rfl, E3.out⟩⟩
end Go.Proofs.YtnfkmpickmonoaaGreat
