/-
  fed.limits: its walk over the cells of a zone, for a loop that lays zones behind a row.
-/
import Derived.Shelf.Abstract
import Derived.Shelf.RegionOpen
import Derived.WalkKit
import Derived.OwnWalkIn
import Derived.TacticsInMore
import Derived.LoopNIn
import Derived.LoopIn
import Derived.Maps.OwnIn
import Derived.Test.YtnfkmpickmonoaaGreatQ15
import Derived.Test.YtnfkmpickmonoaaGreatQ3
import Derived.Test.YtnfkmpickmonoaaGreatQ9
import Derived.OrdersHeld
import Derived.Deep.RegionHeld
namespace Go.Proofs.YtnfkmpickmonoaaGreat
open Go.RowKit Go.Shelf
set_option linter.unusedVariables false
set_option maxRecDepth 100000
attribute [local go_sem] Oper.semAt_some
/-- What is yielded: two numbers and a bound. -/
abbrev Lim := Nat × Nat × Int
abbrev limVs (x : Lim) : Array Value := #[.agg #[.int .i64 (x.1 : Int), .int .i64 (x.2.1 : Int), .int .i32 x.2.2]]
def limAt (n : Nat) (c : Row) (k : Nat) : Lim := (k / (n + 1), k % (n + 1), c k)
/-- The first numbers. -/
def finsL (m K : Nat) : List (Fin m) := (List.finRange m).take K
theorem fins_len {m K : Nat} (h : K ≤ m) : (finsL m K).length = K := by simp [finsL, h]
theorem fins_next {m K : Nat} (h : K < m) : finsL m (K + 1) = finsL m K ++ [⟨K, h⟩] := by
  unfold finsL
  rw [List.take_add_one]
  congr 1
  rw [List.getElem?_eq_getElem (by simpa using h)]
  simp
theorem fins_all (m : Nat) : finsL m m = List.finRange m := by
  unfold finsL
  exact List.take_of_length_le (by simp)
theorem cells_of_cell {w : World} {g k : Nat} {v : Value} (h : w.cell? ⟨g, k, none⟩ = some v) : ∃ o, w.heap[g]? = some o ∧ o.isCells = true := by
  unfold World.cell? at h
  cases e : w.heap[g]? with
  | none => simp [e] at h
  | some o =>
    refine ⟨o, rfl, ?_⟩
    cases o <;> simp_all [Obj.isCells]
theorem lt_of {W : World} {b : Nat} {o : Obj} (h : W.heap[b]? = some o) : b < W.heap.size := (Array.getElem?_eq_some_iff.1 h).1
/-- All blocks of cells stay, but for a row, what it owns, and one more. -/
structure KeepO (n₀ r : Nat) (X : Option Nat) (W W' : World) : Prop where
  below : Below n₀ W W'
  row : ∀ v, W.cell? ⟨r, 1, none⟩ = some v → (∀ b o, W.heap[b]? = some o → o.isCells = true → b ≠ r → some b ≠ X → v.ownBlock ≠ some b → W'.heap[b]? = some o) ∧
    ∃ v', W'.cell? ⟨r, 1, none⟩ = some v' ∧ (v'.ownBlock = v.ownBlock ∨ ∀ b, v'.ownBlock = some b → W.heap.size ≤ b ∧ b < W'.heap.size)
theorem KeepO.trans {n₀ r : Nat} {X : Option Nat} {A B C : World} (h : KeepO n₀ r X A B) (k : KeepO n₀ r X B C) : KeepO n₀ r X A C :=
  ⟨h.below.trans k.below, fun v hv => by
    obtain ⟨h1, v', hv', h2⟩ := h.row v hv
    obtain ⟨k1, v2, hv2, k2⟩ := k.row v' hv'
    refine ⟨fun b o hb ho g1 g2 g3 => k1 b o (h1 b o hb ho g1 g2 g3) ho g1 g2 (fun e => ?_), v2, hv2, ?_⟩
    · rcases h2 with q | q
      · rw [q] at e; exact g3 e
      · have := (q b e).1; have := lt_of hb; omega
    · rcases k2 with q | q
      · rcases h2 with p | p
        · exact .inl (q.trans p)
        · exact .inr fun b hb => ⟨(p b (by rw [← q]; exact hb)).1, Nat.lt_of_lt_of_le (p b (by rw [← q]; exact hb)).2 k.below.size⟩
      · exact .inr fun b hb => ⟨Nat.le_trans h.below.size (q b hb).1, (q b hb).2⟩⟩
theorem KeepO.weak {n₀ r : Nat} {X : Option Nat} {A B : World} (h : KeepO n₀ r none A B) : KeepO n₀ r X A B :=
  ⟨h.below, fun v hv => ⟨fun b o hb ho g1 _ g3 => (h.row v hv).1 b o hb ho g1 (fun e => by cases e) g3, (h.row v hv).2⟩⟩
theorem KeepO.put {n₀ r : Nat} {X : Option Nat} (W : World) (l : Nat) (o o' : Obj) (hn : n₀ ≤ l) (h : W.heap[l]? = some o) (hc : o.isCells = false) : KeepO n₀ r X W (W.putObj l o') := by
  have hg := grownBy_putObj' W l o'
  have ne : ∀ (b : Nat) (p : Obj), W.heap[b]? = some p → p.isCells = true → (W.putObj l o').heap[b]? = W.heap[b]? := fun b p hb hp => hg.block b (lt_of hb) (fun q => by
    injection q with q
    subst q
    rw [hb] at h
    injection h with h
    rw [h] at hp
    rw [hp] at hc
    cases hc)
  refine ⟨⟨rfl, rfl, rfl, by simp, fun k hk => World.putObj_heap_other (by omega)⟩, fun v hv => ⟨fun b p hb hp _ _ _ => (ne b p hb hp).trans hb, v, ?_, .inl rfl⟩⟩
  obtain ⟨p, hp, hi⟩ := cells_of_cell hv
  rw [World.cell?_of_block (w := W) (a := ⟨r, 1, none⟩) (ne r p hp hi)]
  exact hv
theorem KeepO.of {n₀ r : Nat} {X : Option Nat} {W W' : World} (hb : Below W.heap.size W W') (hn : n₀ ≤ W.heap.size) : KeepO n₀ r X W W' :=
  ⟨hb.mono hn, fun v hv => ⟨fun b p hp _ _ _ _ => (hb.block b (lt_of hp)).trans hp, v, kc _ _ hb hv, .inl rfl⟩⟩
theorem KeepO.alloc {n₀ r : Nat} {X : Option Nat} (W : World) (o : Obj) (hn : n₀ ≤ W.heap.size) : KeepO n₀ r X W (W.alloc o) := .of (below_one W o) hn
theorem KeepO.grew {n₀ r : Nat} {X : Option Nat} {v v' : Value} {W W' : World} (h : Grew r v v' W W') (hv : W.cell? ⟨r, 1, none⟩ = some v) (hv' : W'.cell? ⟨r, 1, none⟩ = some v') (lt : ∀ b, v'.ownBlock = some b → b < W'.heap.size) (hb : Below n₀ W W') : KeepO n₀ r X W W' :=
  ⟨hb, fun u hu => by
    rw [hv] at hu
    cases hu
    exact ⟨fun b p hp _ g1 _ g3 => (h.block b (lt_of hp) g1 g3).trans hp, v', hv', h.own.elim .inl fun q => .inr fun b e => ⟨q b e, lt b e⟩⟩⟩
/-- A store into the block that is set aside. -/
theorem KeepO.store {n₀ r x : Nat} (W : World) (u : Value) (hn : n₀ ≤ x) (hr : x ≠ r) : KeepO n₀ r (some x) W (W.setCell ⟨x, 0, none⟩ u) :=
  ⟨(Below.refl n₀ W).setCell (p := ⟨x, 0, none⟩) hn u, fun v hv => ⟨fun b p hp _ _ g2 _ => (Below.heap_setCell _ _ _ _ (fun e => g2 (by rw [e]))).trans hp, v, by rw [World.cell?_setCell_other _ _ _ _ (by intro e; injection e with e1; exact hr e1)]; exact hv, .inl rfl⟩⟩
/-- Is a block none of those that may turn? -/
def Safe (r : Nat) (X : Option Nat) (W : World) (b : Nat) : Prop := b ≠ r ∧ some b ≠ X ∧ ∃ v, W.cell? ⟨r, 1, none⟩ = some v ∧ v.ownBlock ≠ some b
theorem KeepO.cell {n₀ r : Nat} {X : Option Nat} {W W' : World} (h : KeepO n₀ r X W W') {g k : Nat} {u : Value} (hs : Safe r X W g) (hc : W.cell? ⟨g, k, none⟩ = some u) : W'.cell? ⟨g, k, none⟩ = some u := by
  obtain ⟨s1, s2, v, hv, s3⟩ := hs
  obtain ⟨o, ho, hi⟩ := cells_of_cell hc
  rw [World.cell?_of_block (w := W) (a := ⟨g, k, none⟩) (((h.row v hv).1 g o ho hi s1 s2 s3).trans ho.symm)]
  exact hc
theorem KeepO.block {n₀ r : Nat} {X : Option Nat} {W W' : World} (h : KeepO n₀ r X W W') {g : Nat} {o : Obj} (hs : Safe r X W g) (ho : W.heap[g]? = some o) (hi : o.isCells = true) : W'.heap[g]? = some o := by
  obtain ⟨s1, s2, v, hv, s3⟩ := hs
  exact (h.row v hv).1 g o ho hi s1 s2 s3
theorem Safe.keep {n₀ r : Nat} {X : Option Nat} {W W' : World} {b : Nat} (h : Safe r X W b) (hk : KeepO n₀ r X W W') (hb : b < W.heap.size) : Safe r X W' b := by
  obtain ⟨s1, s2, v, hv, s3⟩ := h
  obtain ⟨_, v', hv', q⟩ := hk.row v hv
  refine ⟨s1, s2, v', hv', fun e => ?_⟩
  rcases q with q | q
  · rw [q] at e; exact s3 e
  · have := (q b e).1; omega
theorem Safe.past {r : Nat} {X : Option Nat} {W W' : World} {b : Nat} (h : Safe r X W b) (hb : Below W.heap.size W W') : Safe r X W' b := by
  obtain ⟨s1, s2, v, hv, s3⟩ := h
  exact ⟨s1, s2, v, kc _ _ hb hv, s3⟩
/-- What a row owns lies below the heap's end. -/
def OwnLt (r : Nat) (W : World) : Prop := ∃ v, W.cell? ⟨r, 1, none⟩ = some v ∧ ∀ b, v.ownBlock = some b → b < W.heap.size
theorem OwnLt.keep {n₀ r : Nat} {X : Option Nat} {W W' : World} (h : OwnLt r W) (k : KeepO n₀ r X W W') : OwnLt r W' := by
  obtain ⟨v, hv, hl⟩ := h
  obtain ⟨_, v', hv', q⟩ := k.row v hv
  refine ⟨v', hv', fun b e => ?_⟩
  rcases q with q | q
  · rw [q] at e; exact Nat.lt_of_lt_of_le (hl b e) k.below.size
  · exact (q b e).2
theorem OwnLt.past {r : Nat} {W W' : World} (h : OwnLt r W) (hb : Below W.heap.size W W') : OwnLt r W' := by
  obtain ⟨v, hv, hl⟩ := h
  exact ⟨v, kc _ _ hb hv, fun b e => Nat.lt_of_lt_of_le (hl b e) hb.size⟩
/-- A new block is safe. -/
theorem Safe.fresh {r : Nat} {X : Option Nat} {W W' : World} (h : OwnLt r W) (hb : Below W.heap.size W W') (hX : ∀ x, X = some x → x < W.heap.size) {b : Nat} (g : W.heap.size ≤ b) : Safe r X W' b := by
  obtain ⟨v, hv, hl⟩ := h
  refine ⟨fun e => ?_, fun e => by have := hX b e.symm; omega, v, kc _ _ hb hv, fun e => by have := hl b e; omega⟩
  have := World.block_lt_of_cell? _ _ hv
  simp only at this
  omega
theorem grown_below {B : Nat} {W W' : World} (h : Below B W W') (hB : W.heap.size ≤ B) : W.grownBy W' none := ⟨h.os, h.tape, h.output, h.size, fun k hk _ => h.block k (by omega)⟩
end Go.Proofs.YtnfkmpickmonoaaGreat

/-
  fed.limits, walked.
-/
namespace Go.Proofs.YtnfkmpickmonoaaGreat
open Go.RowKit Go.Shelf
set_option linter.unusedVariables false
set_option maxRecDepth 100000
attribute [local go_sem] Oper.semAt_some
theorem limits_in (k b : Nat) (w : World) : CallsIn Fence.wide k Tryz.prog 80 #[.pointer (some ⟨b, 0, none⟩)] w fun e w' => e = .returned (.func (.func 109) #[] #[.pointer (some ⟨w.heap.size, 0, none⟩)]) ∧ w' = w.alloc (.cells #[.pointer (some ⟨b, 0, none⟩)] 41) := by
  refine callsIn_wide.2 ?_
  go_enter Tryz.func80, Tryz.ntmps80
  go_wp2
  go_ret
  exact ⟨rfl, rfl⟩
theorem two_ways {e : Ending} {p q : Prop} (h : (e = .returned (.bool true) ∧ p) ∨ (e = .returned (.bool false) ∧ q)) : ∃ r : Bool, e = .returned (.bool r) ∧ ((r = true ∧ p) ∨ (r = false ∧ q)) := by
  rcases h with ⟨h, h'⟩ | ⟨h, h'⟩
  · exact ⟨true, h, .inl ⟨rfl, h'⟩⟩
  · exact ⟨false, h, .inr ⟨rfl, h'⟩⟩
set_option maxHeartbeats 2000000 in
theorem limits1_in (k : Nat) (hk : 1 ≤ k) (n m : Nat) (hn : n ≤ 8) (hm : m = (n + 1) * (n + 1)) (c : Row) (l Bz b n₀ r : Nat) (X : Option Nat) (J Jx : List (Fin m) → World → Prop)
    (hY : ∀ pre x W, J pre W → pre.length < m → YieldAt Fence.wide (k - 1) Tryz.prog l (limVs (limAt n c x.val)) W fun e W' =>
      (e = .returned (.bool true) ∧ J (pre ++ [x]) W' ∧ KeepO n₀ r X W W') ∨ (e = .returned (.bool false) ∧ Jx (pre ++ [x]) W'))
    (W : World) (hJ : AbidesFrom W.heap.size J) (hBz : Boxed W Bz 41 (.pointer (some ⟨b, 0, none⟩))) (hz : ZoneAt W b n c) (hX : ∀ x, X = some x → x < W.heap.size) (hO : OwnLt r W) (h0 : J [] W) :
    CallsIn Fence.wide k Tryz.prog 109 #[.func (.yield l) #[] #[], .pointer (some ⟨Bz, 0, none⟩)] W fun e W' => (∃ v, e = .returned v) ∧
      ((∃ ys, ys = List.finRange m ∧ J ys W') ∨ (∃ pre, pre <+: List.finRange m ∧ Jx pre W')) := by
  have HD := hideD (zdim_any b n c W hz)
  have HC := hideD (cells_any b n c W hz hn)
  rw [← hm] at HC
  have hm1 : m ≤ 81 := by rw [hm]; exact Nat.mul_le_mul (show n + 1 ≤ 9 by omega) (show n + 1 ≤ 9 by omega)
  have bx := hBz.cell
  obtain ⟨s, hs⟩ : ∃ s : Int, s = (n : Int) + 1 := ⟨_, rfl⟩
  have ws : wrap64 ((n : Int) + 1) = s := by rw [hs]; unfold wrap64; omega
  have s0 : ¬ s = 0 := by omega
  have HS := hideD hs
  have HM := hideD hm
  have HN := hideD hn
  clear hz hBz hs hm hn
  refine callsIn_of_wp Tryz.func109 rfl trivial ?_ rfl
  simp only [Tryz.ntmps109, List.size_toArray, List.length_cons, List.length_nil, Nat.reduceAdd, Nat.reduceSub, Array.replicate_succ, Array.replicate_zero, List.push_toArray, List.append_toArray, List.nil_append, List.cons_append]
  gi_wp2
  refine ⟨trivial, (callsIn_wide.2 HD.out).mono ?_⟩
  rintro e w1 ⟨rfl, e1⟩
  obtain rfl := e1.symm
  gi_wp2
  refine ⟨trivial, (callsIn_wide.2 HC.out).mono ?_⟩
  rintro e w1 ⟨⟨v, rfl, g, cap, rfl, g0, g1, hrow⟩, hb⟩
  rw [listOf_len]
  have hJ1 : Hid (J [] w1) := hJ _ _ _ none h0 (grown_below hb (Nat.le_refl _)) (by simp)
  have hgS : Hid (Safe r X w1 g) := Safe.fresh hO hb hX g0
  have hr1 : Hid (∀ j, j < m → w1.cell? ⟨g, j, none⟩ = some (.int .i32 (c j))) := fun j hj => by
    have h := hrow j (by rw [listOf_len]; exact hj)
    rw [listOf_get _ _ _ hj, Nat.zero_add] at h
    exact h
  have HY := hideD hY
  have HJ := hideD hJ
  clear HD HC hrow hb hJ hX h0 hY bx hO
  gi_wp2
  gi_loopw [12] (fun i wr => ∃ (K : Nat), i = .int .i64 (K : Int) ∧ K ≤ m ∧ Hid (∀ j, j < m → wr.cell? ⟨g, j, none⟩ = some (.int .i32 (c j))) ∧ Hid (Safe r X wr g ∧ g < wr.heap.size) ∧ Hid (J (finsL m K) wr))
    (fun i _ => m - (intOf i).toNat)
  case atStart => exact ⟨0, rfl, Nat.zero_le _, hr1, ⟨hgS.out, g1⟩, hJ1⟩
  case round =>
    obtain ⟨K, rfl, hK, R, SF, E⟩ := hrel
    by_cases ck : K < m
    · have c0 := R.out K ck
      have k0 : (K : Int) < (m : Int) := by omega
      have q1 : wrap64 ((K : Int).tdiv s) = ((K / (n + 1) : Nat) : Int) := by
        have := Nat.div_le_self K (n + 1)
        rw [HS.out, show ((n : Int) + 1) = ((n + 1 : Nat) : Int) by omega, Int.tdiv_eq_ediv_of_nonneg (by omega), ← Int.natCast_ediv]
        generalize K / (n + 1) = z at *
        unfold wrap64
        omega
      have q3 : IntKind.i64.wrap ((K : Int).tdiv s) = ((K / (n + 1) : Nat) : Int) := by rw [← q1, IntKind.wrap_i64, wrap64]
      have q4 : IntKind.i64.wrap ((K : Int) / s) = ((K / (n + 1) : Nat) : Int) := by
        rw [← q3, Int.tdiv_eq_ediv_of_nonneg (by omega)]
      have mixed : Tryz.prog.follows Departure.mixedOrders = true := by kernel_rfl
      have q2 : (K : Int).tmod s = ((K % (n + 1) : Nat) : Int) := by
        rw [HS.out, show ((n : Int) + 1) = ((n + 1 : Nat) : Int) by omega, Int.tmod_eq_emod_of_nonneg (by omega), ← Int.natCast_emod]
      obtain ⟨fn, tmps, assign, body, hy, hR⟩ := HY.out (finsL m K) ⟨K, ck⟩ wr.drew (HJ.out _ _ _ none E.out (grown_below (Below.drew (Below.refl wr.heap.size wr)) (Nat.le_refl _)) (by simp)) (by rw [fins_len hK]; exact ck)
      have LN := hideD (fins_next ck)
      have e3 : Hid (limAt n c K = (K / (n + 1), K % (n + 1), c K)) := rfl
      rw [show limAt n c (Fin.val ⟨K, ck⟩) = (K / (n + 1), K % (n + 1), c K) from rfl] at hy
      simp only [limVs] at hy
      generalize hx : c K = x at *
      generalize hi : K / (n + 1) = i at *
      generalize hj : K % (n + 1) = j at *
      gi_wp2
      gi_region_with_o (refine hR.mono ?_; rintro e W3 h3; obtain ⟨r, rfl, h4⟩ := two_ways h3; have H4 := hideD h4; clear h4 h3 hR hy)
      rcases H4.out with ⟨rfl, hJ3, hk3⟩ | ⟨rfl, hJx3⟩
      · have R3 : Hid (∀ j, j < m → W3.cell? ⟨g, j, none⟩ = some (.int .i32 (c j))) := fun j hj => hk3.cell SF.out.1 (R.out j hj)
        have E3 : Hid (J (finsL m (K + 1)) W3) := by show J _ _; rw [LN.out]; exact hJ3
        have S3 : Hid (Safe r X W3 g ∧ g < W3.heap.size) := ⟨Safe.keep (W := wr.drew) (show Safe r X wr.drew g from SF.out.1) hk3 SF.out.2, Nat.lt_of_lt_of_le SF.out.2 hk3.below.size⟩
        clear hk3 hJ3 H4 R E q1 q2 q3 q4 c0 SF
        gi_wp2
        go_roundw
        case rel => exact ⟨K + 1, by go_num, by omega, R3, S3, E3⟩
        case measure => simp [intOf]; omega
      · have E3 : Hid (finsL m (K + 1) <+: List.finRange m ∧ Jx (finsL m (K + 1)) W3) := ⟨List.take_prefix _ _, by rw [LN.out]; exact hJx3⟩
        clear hJx3 H4 R E q1 q2 q3 q4 c0
        gi_wp2
        refine bodyPost_ret (results_none rfl _ _ _) rfl ?_
        exact ⟨⟨_, rfl⟩, .inr ⟨_, E3.out.1, E3.out.2⟩⟩
    · have eK : K = m := by omega
      have E3 : Hid (J (List.finRange m) wr) := by
        show J _ _
        rw [← fins_all]
        have e := E.out
        rw [eK] at e
        exact e
      have ck' : ¬ (K : Int) < (m : Int) := by omega
      clear R E eK
      gi_wp2
      go_end0
      first | exact ⟨⟨_, rfl⟩, .inl E3.out⟩ | exact ⟨⟨_, rfl⟩, .inl ⟨_, rfl, E3.out⟩⟩
end Go.Proofs.YtnfkmpickmonoaaGreat

/-
  bound.Not.
-/
namespace Go.Proofs.YtnfkmpickmonoaaGreat
open Go.RowKit
set_option linter.unusedVariables false
def notB (b : Int) : Int := if finB b then ofB (-(valV b)) (!valR b) else 0
def notE (b : Int) : Int := if rightB b then (if finB b then ofE (-(valV b)) else 4) else 7
theorem not_any (b : Int) (w : World) :
    Calls Tryz.prog 113 #[.int .i32 b] w fun e w' => e = .returned (.tuple #[.int .i32 (notB b), .int .i64 (notE b)]) ∧ w' = w := by
  cases f : finB b
  · have e1 : notB b = 0 := by simp [notB, f]
    rw [e1]
    cases r : rightB b
    · have e2 : notE b = 7 := by simp [notE, r]
      rw [e2]
      clear e1 e2
      go_enter Tryz.func113, Tryz.ntmps113
      go_wp2_with (go_at_call 37; refine (right_any _ _).mono ?_; rintro e w' ⟨rfl, rfl⟩)
      go_ret2
      exact ⟨rfl, rfl⟩
    · have e2 : notE b = 4 := by simp [notE, r, f]
      rw [e2]
      clear e1 e2
      go_enter Tryz.func113, Tryz.ntmps113
      go_wp2_with (first | (go_at_call 37; refine (right_any _ _).mono ?_; rintro e w' ⟨rfl, rfl⟩) | (go_at_call 104; refine (value_any _ _).mono ?_; rintro e w' ⟨rfl, rfl⟩))
      go_ret2
      exact ⟨rfl, rfl⟩
  · have r := right_of_fin f
    have l := (fin_iff b).1 f
    have l0 : -268435456 ≤ valV b := by simp [valV, f]; omega
    have l1 : valV b ≤ 268435456 := by simp [valV, f]; omega
    have e1 : notB b = ofB (-(valV b)) (!valR b) := by simp [notB, f]
    have e2 : notE b = ofE (-(valV b)) := by simp [notE, r, f]
    rw [e1, e2]
    clear e1 e2 l
    go_enter Tryz.func113, Tryz.ntmps113
    go_wp2_with (first | (go_at_call 37; refine (right_any _ _).mono ?_; rintro e w' ⟨rfl, rfl⟩) | (go_at_call 104; refine (value_any _ _).mono ?_; rintro e w' ⟨rfl, rfl⟩) | (go_at_call 135; refine (of_any _ _ _).mono ?_; rintro e w' ⟨rfl, rfl⟩))
    go_ret2
    exact ⟨rfl, rfl⟩
end Go.Proofs.YtnfkmpickmonoaaGreat

/-
  fed.keeps, fed.opposite.
-/
namespace Go.Proofs.YtnfkmpickmonoaaGreat
open Go.RowKit
set_option linter.unusedVariables false
set_option maxRecDepth 100000
theorem fkeeps_any (b n i j : Nat) (c : Row) (v : Int) (w : World) (hn : n ≤ 8) (hz : ZoneAt w b n c) (hi : i ≤ n) (hj : j ≤ n) :
    Calls Tryz.prog 81 #[.pointer (some ⟨b, 0, none⟩), .agg #[.int .i64 (i : Int), .int .i64 (j : Int), .int .i32 v]] w fun e w' => e = .returned (.bool (decide (c (i * (n + 1) + j) ≤ v))) ∧ Below w.heap.size w w' := by
  have B0 := below_one w (.cells #[.int .i64 (i : Int), .int .i64 (j : Int), .int .i32 v] 90)
  have H := hideD (cell_in b n i j c _ hn (hz.past B0) hi hj)
  generalize c (i * (n + 1) + j) = x at *
  have BB := hideD B0
  clear hz hn hi hj B0
  go_enter Tryz.func81, Tryz.ntmps81
  go_wp2_with fail
  refine H.out.mono ?_
  rintro e w1 ⟨rfl, hb⟩
  have s2 := kc ⟨w.heap.size, 2, none⟩ (.int .i32 v) hb (by simp [go_sem])
  have B1 := hideD (beyondD BB.out hb)
  clear hb H BB
  go_wp2_with fail
  go_ret
  exact ⟨rfl, B1.out⟩
theorem opp_any (i j v : Int) (w : World) :
    Calls Tryz.prog 83 #[.agg #[.int .i64 i, .int .i64 j, .int .i32 v]] w fun e w' => e = .returned (.agg #[.int .i64 j, .int .i64 i, .int .i32 (notB v)]) ∧ Below w.heap.size w w' := by
  have HN := hideD (fun w => not_any v w)
  generalize notB v = x at *
  generalize notE v = y at *
  go_enter Tryz.func83, Tryz.ntmps83
  go_wp2_with fail
  refine (HN.out _).mono ?_
  rintro e w1 ⟨rfl, rfl⟩
  clear HN
  go_wp2_with fail
  refine bodyPost_ret (v := .agg #[.int .i64 j, .int .i64 i, .int .i32 x]) (by simp [results, Tryz.results83, go_sem, *]) rfl ⟨rfl, ?_⟩
  exact ((Below.refl _ _).alloc (Nat.le_refl _) _).alloc (by simp) _
end Go.Proofs.YtnfkmpickmonoaaGreat

/-
  fed.left: what it yields, in plain words.
-/
namespace Go.Proofs.YtnfkmpickmonoaaGreat
open Go.RowKit
set_option linter.unusedVariables false
theorem notB_eq {v : Int} (h0 : -536870912 ≤ v) (h1 : v ≤ 536870913) : notB v = 1 - v := by
  have f : finB v = true := (fin_iff v).2 ⟨h0, h1⟩
  unfold notB
  rw [if_pos f]
  have e1 : valV v = v / 2 := by simp [valV, f]
  have e2 : valR v = decide (v % 2 = 1) := by simp [valR, f]
  rw [e1, e2]
  unfold ofB
  rw [if_neg (by omega)]
  by_cases c : v % 2 = 1
  · simp only [c]
    simp
    omega
  · simp only [c]
    simp
    omega
/-- A zone, or none, and an error. -/
abbrev YS := Option Row × Int
/-- One cell more. -/
def lStep (n m : Nat) (d : Row) (K : Nat) (ys : List YS) (x : Row) : List YS × Option Row :=
  if x K ≤ d K then (ys, some x) else
    match conZ n m x (K % (n + 1) * (n + 1) + K / (n + 1)) (1 - d K) with
    | none => (ys ++ [(none, 10)], none)
    | some o => match conZ n m x K (d K) with
      | none => (ys ++ [(some o, 0)] ++ [(none, 10)], none)
      | some x' => (ys ++ [(some o, 0)], some x')
def lNext (n m : Nat) (d : Row) (s : List YS × Option Row) (K : Nat) : List YS × Option Row :=
  match s.2 with
  | none => s
  | some x => lStep n m d K s.1 x
/-- Cell by cell. -/
def leftL (n m : Nat) (c d : Row) (ks : List Nat) : List YS × Option Row := ks.foldl (lNext n m d) ([], some c)
theorem leftL_snoc (n m : Nat) (c d : Row) (ks : List Nat) (K : Nat) : leftL n m c d (ks ++ [K]) = lNext n m d (leftL n m c d ks) K := by simp [leftL]
theorem leftL_end {n m : Nat} {c d : Row} {ks : List Nat} (h : (leftL n m c d ks).2 = none) (js : List Nat) : leftL n m c d (ks ++ js) = leftL n m c d ks := by
  unfold leftL at *
  rw [List.foldl_append]
  generalize List.foldl (lNext n m d) ([], some c) ks = s at *
  induction js with
  | nil => rfl
  | cons j js ih =>
    rw [List.foldl_cons]
    have : lNext n m d s j = s := by unfold lNext; rw [h]
    rw [this, ih]
/-- Have two zones a valuation in common? -/
def metB (n m : Nat) (c d : Row) : Bool := (closeR n (tgAll n (listOf d m) m (tgAll n (listOf c m) m (startR n (n + 1) 0)))).isSome
def leftY (n m : Nat) (c d : Row) : List YS := if metB n m c d = true then (leftL n m c d (List.range m)).1 else [(some c, 0)]
/-- What is yielded, with where it lies. -/
abbrev YE := Option ZR × Int
abbrev encY (x : YE) : Array Value := #[.pointer (x.1.map fun z => ⟨z.1, 0, none⟩), .int .i64 x.2]
def rowY (x : YE) : YS := (x.1.map (·.2), x.2)
/-- What it is told to be. -/
def TY (n m r : Nat) (x : YE) (W : World) : Prop := (x.2 = 0 → x.1 ≠ none) ∧ ∀ z, x.1 = some z → ZoneAt W z.1 n z.2 ∧ C32 z.2 ∧ ZC n m z.2 ∧ Safe r none W z.1
theorem conZ_zc {n m k : Nat} {c o : Row} {v : Int} (hn : n ≤ 8) (hm : m = (n + 1) * (n + 1)) (hc : ZC n m c) (hv : rightB v = true) (h : conZ n m c k v = some o) : ZC n m o :=
  zc_drf hn hm (fun j hj => by
    have := low_right (k := k) (zc_right hm hc) hv j
    rw [listOf_get _ _ _ hj]
    unfold rightB at this
    have := of_decide_eq_true this
    omega) h
theorem zc_32 {n m : Nat} {c : Row} (hm : m = (n + 1) * (n + 1)) (h : ZC n m c) : C32 c := fun k => by
  have := zc_right hm h k
  unfold rightB at this
  have := of_decide_eq_true this
  omega
end Go.Proofs.YtnfkmpickmonoaaGreat

/-
  A drawn region within a round of a loop over a function.
-/
namespace Go.Proofs.YtnfkmpickmonoaaGreat
open Go.RowKit Go.Shelf
set_option linter.unusedVariables false
set_option maxRecDepth 100000
def noDefer (o : Oper) : Bool := match o.op with
  | .defer _ => false
  | _ => true
theorem oper_in {l n : Nat} {P : Program} {o : Oper} {a : Act} {w : World} {K K' : Act → World → Prop} {Q : Exit → Act → World → Prop} (hd : noDefer o = true) (hK : ∀ a w, K a w → K' a w) (h : o.wp P a w K Q) : o.wpIn (Fence.wide.inRound l) n P a w K' Q := by
  refine ⟨fun _ _ => trivial, ?_⟩
  rw [Oper.semAt_eq _ _ _ (fun c hc => by unfold noDefer at hd; rw [hc] at hd; cases hd)]
  unfold Oper.wp at h
  generalize (execOp a.eval o).run P w = r at *
  cases r with
  | ok x w' =>
    cases x with
    | value v => exact hK _ _ h
    | skip => exact hK _ _ h
    | defer d => exact hK _ _ h
    | enter f args => exact ⟨fun e => (by cases e), callsIn_wide.2 (Calls.mono h (fun e w'' he => by cases e <;> first | exact hK _ _ he | exact he))⟩
    | row row args => 
      refine ⟨fun e => (by cases e), fun c cs _ => ?_⟩
      obtain ⟨v, w1, r, s⟩ := h c cs
      exact ⟨v, w1, hK _ _ r, stepsIn_wide.2 s⟩
    | _ => exact h.elim
  | halt x w' => cases x <;> first | exact h | exact h.elim
theorem any_in {l n : Nat} {P : Program} {md : Region.Mode} {ops : Array Oper} {Q : Exit → Act → World → Prop} (hd : ops.all noDefer = true) (hL : ¬ LetsOut Q) : ∀ (fuel : Nat) (listed : Array Bool) (a : Act) (w : World), wpAny P md ops Q fuel listed a w → wpAnyIn (Fence.wide.inRound l) n P md ops Q fuel listed a w
  | 0, _, _, _, h => h
  | fuel + 1, listed, a, w, h => ⟨h.1, fun i hi => by
    have h' := h.2 i hi
    unfold wpOp at h'
    unfold wpOpIn
    cases e : ops[i]? with
    | none => rw [e] at h'; exact any_in hd hL fuel _ _ _ h'
    | some o =>
      rw [e] at h'
      simp only at h' ⊢
      split
      · rename_i hw
        rw [if_pos hw] at h'
        rcases h' with h' | ⟨_, h'⟩
        · obtain ⟨hi1, hi2⟩ := Array.getElem?_eq_some_iff.1 e
          exact oper_in (by rw [← hi2]; exact (Array.all_eq_true.1 hd) i hi1) (fun a w => any_in hd hL fuel _ a w) h'
        · exact absurd h' hL
      · rename_i hw
        rw [if_neg hw] at h'
        exact ⟨fun _ _ => trivial, any_in hd hL fuel _ _ _ h'⟩⟩
theorem region_round {l n id : Nat} {P : Program} {ops : Array Oper} {Q : Exit → Act → World → Prop} {a : Act} {w : World} (S : World → Prop) (hm : P.follows .mixedOrders = true) (hd : ops.all noDefer = true) (hL : ¬ LetsOut Q) (hS : S w.drew)
    (h : S w.drew → wpAnyH P .any ops Q S ops.size (Array.replicate ops.size false) a w.drew) : (Code.region id ops true).wpIn (Fence.wide.inRound l) n P Q a w :=
  wpIn_region_any hm (any_in hd hL _ _ _ _ (wpAny_of_held _ _ _ _ (h hS)))
end Go.Proofs.YtnfkmpickmonoaaGreat
