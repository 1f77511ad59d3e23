/-
  fed.limits: its walk over the cells of a zone, for a loop that lays zones behind a row.
-/
import Derived.Shelf.Abstract
import Derived.Shelf.RegionOpen
import Derived.WalkKit
import Derived.OwnWalkIn
import Derived.TacticsInMore
import Derived.LoopNIn
import Derived.LoopIn
import Derived.Maps.OwnIn
import Derived.Test.YtnfkmpickmonoaaGreatQ19
namespace Go.Proofs.YtnfkmpickmonoaaGreat
open Go.RowKit Go.Shelf
set_option linter.unusedVariables false
set_option maxRecDepth 100000
attribute [local go_sem] Oper.semAt_some
/-- What is yielded: two numbers and a bound. -/
abbrev Lim := Nat × Nat × Int
abbrev limVs (x : Lim) : Array Value := #[.agg #[.int .i64 (x.1 : Int), .int .i64 (x.2.1 : Int), .int .i32 x.2.2]]
def limAt (n : Nat) (c : Row) (k : Nat) : Lim := (k / (n + 1), k % (n + 1), c k)
/-- The first numbers. -/
def finsL (m K : Nat) : List (Fin m) := (List.finRange m).take K
theorem fins_len {m K : Nat} (h : K ≤ m) : (finsL m K).length = K := by simp [finsL, h]
theorem fins_next {m K : Nat} (h : K < m) : finsL m (K + 1) = finsL m K ++ [⟨K, h⟩] := by
  unfold finsL
  rw [List.take_add_one]
  congr 1
  rw [List.getElem?_eq_getElem (by simpa using h)]
  simp
theorem fins_all (m : Nat) : finsL m m = List.finRange m := by
  unfold finsL
  exact List.take_of_length_le (by simp)
theorem cells_of_cell {w : World} {g k : Nat} {v : Value} (h : w.cell? ⟨g, k, none⟩ = some v) : ∃ o, w.heap[g]? = some o ∧ o.isCells = true := by
  unfold World.cell? at h
  cases e : w.heap[g]? with
  | none => simp [e] at h
  | some o =>
    refine ⟨o, rfl, ?_⟩
    cases o <;> simp_all [Obj.isCells]
theorem lt_of {W : World} {b : Nat} {o : Obj} (h : W.heap[b]? = some o) : b < W.heap.size := (Array.getElem?_eq_some_iff.1 h).1
/-- All blocks of cells stay, but for a row, what it owns, and one more. -/
structure KeepO (n₀ r : Nat) (X : Option Nat) (W W' : World) : Prop where
  below : Below n₀ W W'
  row : ∀ v, W.cell? ⟨r, 1, none⟩ = some v → (∀ b o, W.heap[b]? = some o → o.isCells = true → b ≠ r → some b ≠ X → v.ownBlock ≠ some b → W'.heap[b]? = some o) ∧
    ∃ v', W'.cell? ⟨r, 1, none⟩ = some v' ∧ (v'.ownBlock = v.ownBlock ∨ ∀ b, v'.ownBlock = some b → W.heap.size ≤ b ∧ b < W'.heap.size)
theorem KeepO.trans {n₀ r : Nat} {X : Option Nat} {A B C : World} (h : KeepO n₀ r X A B) (k : KeepO n₀ r X B C) : KeepO n₀ r X A C :=
  ⟨h.below.trans k.below, fun v hv => by
    obtain ⟨h1, v', hv', h2⟩ := h.row v hv
    obtain ⟨k1, v2, hv2, k2⟩ := k.row v' hv'
    refine ⟨fun b o hb ho g1 g2 g3 => k1 b o (h1 b o hb ho g1 g2 g3) ho g1 g2 (fun e => ?_), v2, hv2, ?_⟩
    · rcases h2 with q | q
      · rw [q] at e; exact g3 e
      · have := (q b e).1; have := lt_of hb; omega
    · rcases k2 with q | q
      · rcases h2 with p | p
        · exact .inl (q.trans p)
        · exact .inr fun b hb => ⟨(p b (by rw [← q]; exact hb)).1, Nat.lt_of_lt_of_le (p b (by rw [← q]; exact hb)).2 k.below.size⟩
      · exact .inr fun b hb => ⟨Nat.le_trans h.below.size (q b hb).1, (q b hb).2⟩⟩
theorem KeepO.weak {n₀ r : Nat} {X : Option Nat} {A B : World} (h : KeepO n₀ r none A B) : KeepO n₀ r X A B :=
  ⟨h.below, fun v hv => ⟨fun b o hb ho g1 _ g3 => (h.row v hv).1 b o hb ho g1 (fun e => by cases e) g3, (h.row v hv).2⟩⟩
theorem KeepO.put {n₀ r : Nat} {X : Option Nat} (W : World) (l : Nat) (o o' : Obj) (hn : n₀ ≤ l) (h : W.heap[l]? = some o) (hc : o.isCells = false) : KeepO n₀ r X W (W.putObj l o') := by
  have hg := grownBy_putObj' W l o'
  have ne : ∀ (b : Nat) (p : Obj), W.heap[b]? = some p → p.isCells = true → (W.putObj l o').heap[b]? = W.heap[b]? := fun b p hb hp => hg.block b (lt_of hb) (fun q => by
    injection q with q
    subst q
    rw [hb] at h
    injection h with h
    rw [h] at hp
    rw [hp] at hc
    cases hc)
  refine ⟨⟨rfl, rfl, rfl, by simp, fun k hk => World.putObj_heap_other (by omega)⟩, fun v hv => ⟨fun b p hb hp _ _ _ => (ne b p hb hp).trans hb, v, ?_, .inl rfl⟩⟩
  obtain ⟨p, hp, hi⟩ := cells_of_cell hv
  rw [World.cell?_of_block (w := W) (a := ⟨r, 1, none⟩) (ne r p hp hi)]
  exact hv
theorem KeepO.of {n₀ r : Nat} {X : Option Nat} {W W' : World} (hb : Below W.heap.size W W') (hn : n₀ ≤ W.heap.size) : KeepO n₀ r X W W' :=
  ⟨hb.mono hn, fun v hv => ⟨fun b p hp _ _ _ _ => (hb.block b (lt_of hp)).trans hp, v, kc _ _ hb hv, .inl rfl⟩⟩
theorem KeepO.alloc {n₀ r : Nat} {X : Option Nat} (W : World) (o : Obj) (hn : n₀ ≤ W.heap.size) : KeepO n₀ r X W (W.alloc o) := .of (below_one W o) hn
theorem KeepO.grew {n₀ r : Nat} {X : Option Nat} {v v' : Value} {W W' : World} (h : Grew r v v' W W') (hv : W.cell? ⟨r, 1, none⟩ = some v) (hv' : W'.cell? ⟨r, 1, none⟩ = some v') (lt : ∀ b, v'.ownBlock = some b → b < W'.heap.size) (hb : Below n₀ W W') : KeepO n₀ r X W W' :=
  ⟨hb, fun u hu => by
    rw [hv] at hu
    cases hu
    exact ⟨fun b p hp _ g1 _ g3 => (h.block b (lt_of hp) g1 g3).trans hp, v', hv', h.own.elim .inl fun q => .inr fun b e => ⟨q b e, lt b e⟩⟩⟩
/-- A store into the block that is set aside. -/
theorem KeepO.store {n₀ r x : Nat} (W : World) (u : Value) (hn : n₀ ≤ x) (hr : x ≠ r) : KeepO n₀ r (some x) W (W.setCell ⟨x, 0, none⟩ u) :=
  ⟨(Below.refl n₀ W).setCell (p := ⟨x, 0, none⟩) hn u, fun v hv => ⟨fun b p hp _ _ g2 _ => (Below.heap_setCell _ _ _ _ (fun e => g2 (by rw [e]))).trans hp, v, by rw [World.cell?_setCell_other _ _ _ _ (by intro e; injection e with e1; exact hr e1)]; exact hv, .inl rfl⟩⟩
/-- Is a block none of those that may turn? -/
def Safe (r : Nat) (X : Option Nat) (W : World) (b : Nat) : Prop := b ≠ r ∧ some b ≠ X ∧ ∃ v, W.cell? ⟨r, 1, none⟩ = some v ∧ v.ownBlock ≠ some b
theorem KeepO.cell {n₀ r : Nat} {X : Option Nat} {W W' : World} (h : KeepO n₀ r X W W') {g k : Nat} {u : Value} (hs : Safe r X W g) (hc : W.cell? ⟨g, k, none⟩ = some u) : W'.cell? ⟨g, k, none⟩ = some u := by
  obtain ⟨s1, s2, v, hv, s3⟩ := hs
  obtain ⟨o, ho, hi⟩ := cells_of_cell hc
  rw [World.cell?_of_block (w := W) (a := ⟨g, k, none⟩) (((h.row v hv).1 g o ho hi s1 s2 s3).trans ho.symm)]
  exact hc
theorem KeepO.block {n₀ r : Nat} {X : Option Nat} {W W' : World} (h : KeepO n₀ r X W W') {g : Nat} {o : Obj} (hs : Safe r X W g) (ho : W.heap[g]? = some o) (hi : o.isCells = true) : W'.heap[g]? = some o := by
  obtain ⟨s1, s2, v, hv, s3⟩ := hs
  exact (h.row v hv).1 g o ho hi s1 s2 s3
theorem Safe.keep {n₀ r : Nat} {X : Option Nat} {W W' : World} {b : Nat} (h : Safe r X W b) (hk : KeepO n₀ r X W W') (hb : b < W.heap.size) : Safe r X W' b := by
  obtain ⟨s1, s2, v, hv, s3⟩ := h
  obtain ⟨_, v', hv', q⟩ := hk.row v hv
  refine ⟨s1, s2, v', hv', fun e => ?_⟩
  rcases q with q | q
  · rw [q] at e; exact s3 e
  · have := (q b e).1; omega
theorem Safe.past {r : Nat} {X : Option Nat} {W W' : World} {b : Nat} (h : Safe r X W b) (hb : Below W.heap.size W W') : Safe r X W' b := by
  obtain ⟨s1, s2, v, hv, s3⟩ := h
  exact ⟨s1, s2, v, kc _ _ hb hv, s3⟩
/-- What a row owns lies below the heap's end. -/
def OwnLt (r : Nat) (W : World) : Prop := ∃ v, W.cell? ⟨r, 1, none⟩ = some v ∧ ∀ b, v.ownBlock = some b → b < W.heap.size
theorem OwnLt.keep {n₀ r : Nat} {X : Option Nat} {W W' : World} (h : OwnLt r W) (k : KeepO n₀ r X W W') : OwnLt r W' := by
  obtain ⟨v, hv, hl⟩ := h
  obtain ⟨_, v', hv', q⟩ := k.row v hv
  refine ⟨v', hv', fun b e => ?_⟩
  rcases q with q | q
  · rw [q] at e; exact Nat.lt_of_lt_of_le (hl b e) k.below.size
  · exact (q b e).2
theorem OwnLt.past {r : Nat} {W W' : World} (h : OwnLt r W) (hb : Below W.heap.size W W') : OwnLt r W' := by
  obtain ⟨v, hv, hl⟩ := h
  exact ⟨v, kc _ _ hb hv, fun b e => Nat.lt_of_lt_of_le (hl b e) hb.size⟩
/-- A new block is safe. -/
theorem Safe.fresh {r : Nat} {X : Option Nat} {W W' : World} (h : OwnLt r W) (hb : Below W.heap.size W W') (hX : ∀ x, X = some x → x < W.heap.size) {b : Nat} (g : W.heap.size ≤ b) : Safe r X W' b := by
  obtain ⟨v, hv, hl⟩ := h
  refine ⟨fun e => ?_, fun e => by have := hX b e.symm; omega, v, kc _ _ hb hv, fun e => by have := hl b e; omega⟩
  have := World.block_lt_of_cell? _ _ hv
  simp only at this
  omega
theorem grown_below {B : Nat} {W W' : World} (h : Below B W W') (hB : W.heap.size ≤ B) : W.grownBy W' none := ⟨h.os, h.tape, h.output, h.size, fun k hk _ => h.block k (by omega)⟩
end Go.Proofs.YtnfkmpickmonoaaGreat

/-
  fed.limits, walked.
-/
namespace Go.Proofs.YtnfkmpickmonoaaGreat
open Go.RowKit Go.Shelf
set_option linter.unusedVariables false
set_option maxRecDepth 100000
attribute [local go_sem] Oper.semAt_some
theorem limits_in (k b : Nat) (w : World) : CallsIn Fence.wide k Tryz.prog 80 #[.pointer (some ⟨b, 0, none⟩)] w fun e w' => e = .returned (.func (.func 109) #[] #[.pointer (some ⟨w.heap.size, 0, none⟩)]) ∧ w' = w.alloc (.cells #[.pointer (some ⟨b, 0, none⟩)] 41) := by
  refine callsIn_wide.2 ?_
  go_enter Tryz.func80, Tryz.ntmps80
  go_wp2
  go_ret
  exact ⟨rfl, rfl⟩
theorem two_ways {e : Ending} {p q : Prop} (h : (e = .returned (.bool true) ∧ p) ∨ (e = .returned (.bool false) ∧ q)) : ∃ r : Bool, e = .returned (.bool r) ∧ ((r = true ∧ p) ∨ (r = false ∧ q)) := by
  rcases h with ⟨h, h'⟩ | ⟨h, h'⟩
  · exact ⟨true, h, .inl ⟨rfl, h'⟩⟩
  · exact ⟨false, h, .inr ⟨rfl, h'⟩⟩
set_option maxHeartbeats 2000000 in
theorem limits1_in (k : Nat) (hk : 1 ≤ k) (n m : Nat) (hn : n ≤ 8) (hm : m = (n + 1) * (n + 1)) (c : Row) (l Bz b n₀ r : Nat) (X : Option Nat) (J Jx : List (Fin m) → World → Prop)
    (hY : ∀ pre x W, J pre W → pre.length < m → YieldAt Fence.wide (k - 1) Tryz.prog l (limVs (limAt n c x.val)) W fun e W' =>
      (e = .returned (.bool true) ∧ J (pre ++ [x]) W' ∧ KeepO n₀ r X W W') ∨ (e = .returned (.bool false) ∧ Jx (pre ++ [x]) W'))
    (W : World) (hJ : AbidesFrom W.heap.size J) (hBz : Boxed W Bz 41 (.pointer (some ⟨b, 0, none⟩))) (hz : ZoneAt W b n c) (hX : ∀ x, X = some x → x < W.heap.size) (hO : OwnLt r W) (h0 : J [] W) :
    CallsIn Fence.wide k Tryz.prog 109 #[.func (.yield l) #[] #[], .pointer (some ⟨Bz, 0, none⟩)] W fun e W' => (∃ v, e = .returned v) ∧
      ((∃ ys, ys = List.finRange m ∧ J ys W') ∨ (∃ pre, pre <+: List.finRange m ∧ Jx pre W')) := by
  have HD := hideD (zdim_any b n c W hz)
  have HC := hideD (cells_any b n c W hz hn)
  rw [← hm] at HC
  have hm1 : m ≤ 81 := by rw [hm]; exact Nat.mul_le_mul (show n + 1 ≤ 9 by omega) (show n + 1 ≤ 9 by omega)
  have bx := hBz.cell
  obtain ⟨s, hs⟩ : ∃ s : Int, s = (n : Int) + 1 := ⟨_, rfl⟩
  have ws : wrap64 ((n : Int) + 1) = s := by rw [hs]; unfold wrap64; omega
  have s0 : ¬ s = 0 := by omega
  have HS := hideD hs
  have HM := hideD hm
  have HN := hideD hn
  clear hz hBz hs hm hn
  refine callsIn_of_wp Tryz.func109 rfl trivial ?_ rfl
  simp only [Tryz.ntmps109, List.size_toArray, List.length_cons, List.length_nil, Nat.reduceAdd, Nat.reduceSub, Array.replicate_succ, Array.replicate_zero, List.push_toArray, List.append_toArray, List.nil_append, List.cons_append]
  gi_wp2
  refine ⟨trivial, (callsIn_wide.2 HD.out).mono ?_⟩
  rintro e w1 ⟨rfl, e1⟩
  obtain rfl := e1.symm
  gi_wp2
  refine ⟨trivial, (callsIn_wide.2 HC.out).mono ?_⟩
  rintro e w1 ⟨⟨v, rfl, g, cap, rfl, g0, g1, hrow⟩, hb⟩
  rw [listOf_len]
  have hJ1 : Hid (J [] w1) := hJ _ _ _ none h0 (grown_below hb (Nat.le_refl _)) (by simp)
  have hgS : Hid (Safe r X w1 g) := Safe.fresh hO hb hX g0
  have hr1 : Hid (∀ j, j < m → w1.cell? ⟨g, j, none⟩ = some (.int .i32 (c j))) := fun j hj => by
    have h := hrow j (by rw [listOf_len]; exact hj)
    rw [listOf_get _ _ _ hj, Nat.zero_add] at h
    exact h
  have HY := hideD hY
  have HJ := hideD hJ
  clear HD HC hrow hb hJ hX h0 hY bx hO
  gi_wp2
  gi_loopw [12] (fun i wr => ∃ (K : Nat), i = .int .i64 (K : Int) ∧ K ≤ m ∧ Hid (∀ j, j < m → wr.cell? ⟨g, j, none⟩ = some (.int .i32 (c j))) ∧ Hid (Safe r X wr g ∧ g < wr.heap.size) ∧ Hid (J (finsL m K) wr))
    (fun i _ => m - (intOf i).toNat)
  case atStart => exact ⟨0, rfl, Nat.zero_le _, hr1, ⟨hgS.out, g1⟩, hJ1⟩
  case round =>
    obtain ⟨K, rfl, hK, R, SF, E⟩ := hrel
    by_cases ck : K < m
    · have c0 := R.out K ck
      have k0 : (K : Int) < (m : Int) := by omega
      have q1 : wrap64 ((K : Int).tdiv s) = ((K / (n + 1) : Nat) : Int) := by
        have := Nat.div_le_self K (n + 1)
        rw [HS.out, show ((n : Int) + 1) = ((n + 1 : Nat) : Int) by omega, Int.tdiv_eq_ediv_of_nonneg (by omega), ← Int.natCast_ediv]
        generalize K / (n + 1) = z at *
        unfold wrap64
        omega
      have q3 : IntKind.i64.wrap ((K : Int).tdiv s) = ((K / (n + 1) : Nat) : Int) := by rw [← q1, IntKind.wrap_i64, wrap64]
      have q4 : IntKind.i64.wrap ((K : Int) / s) = ((K / (n + 1) : Nat) : Int) := by
        rw [← q3, Int.tdiv_eq_ediv_of_nonneg (by omega)]
      have mixed : Tryz.prog.follows Departure.mixedOrders = true := by kernel_rfl
      have q2 : (K : Int).tmod s = ((K % (n + 1) : Nat) : Int) := by
        rw [HS.out, show ((n : Int) + 1) = ((n + 1 : Nat) : Int) by omega, Int.tmod_eq_emod_of_nonneg (by omega), ← Int.natCast_emod]
      obtain ⟨fn, tmps, assign, body, hy, hR⟩ := HY.out (finsL m K) ⟨K, ck⟩ wr.drew (HJ.out _ _ _ none E.out (grown_below (Below.drew (Below.refl wr.heap.size wr)) (Nat.le_refl _)) (by simp)) (by rw [fins_len hK]; exact ck)
      have LN := hideD (fins_next ck)
      have e3 : Hid (limAt n c K = (K / (n + 1), K % (n + 1), c K)) := rfl
      rw [show limAt n c (Fin.val ⟨K, ck⟩) = (K / (n + 1), K % (n + 1), c K) from rfl] at hy
      simp only [limVs] at hy
      generalize hx : c K = x at *
      generalize hi : K / (n + 1) = i at *
      generalize hj : K % (n + 1) = j at *
      gi_wp2
      gi_region_with_o (refine hR.mono ?_; rintro e W3 h3; obtain ⟨r, rfl, h4⟩ := two_ways h3; have H4 := hideD h4; clear h4 h3 hR hy)
      rcases H4.out with ⟨rfl, hJ3, hk3⟩ | ⟨rfl, hJx3⟩
      · have R3 : Hid (∀ j, j < m → W3.cell? ⟨g, j, none⟩ = some (.int .i32 (c j))) := fun j hj => hk3.cell SF.out.1 (R.out j hj)
        have E3 : Hid (J (finsL m (K + 1)) W3) := by show J _ _; rw [LN.out]; exact hJ3
        have S3 : Hid (Safe r X W3 g ∧ g < W3.heap.size) := ⟨Safe.keep (W := wr.drew) (show Safe r X wr.drew g from SF.out.1) hk3 SF.out.2, Nat.lt_of_lt_of_le SF.out.2 hk3.below.size⟩
        clear hk3 hJ3 H4 R E q1 q2 q3 q4 c0 SF
        gi_wp2
        go_roundw
        case rel => exact ⟨K + 1, by go_num, by omega, R3, S3, E3⟩
        case measure => simp [intOf]; omega
      · have E3 : Hid (finsL m (K + 1) <+: List.finRange m ∧ Jx (finsL m (K + 1)) W3) := ⟨List.take_prefix _ _, by rw [LN.out]; exact hJx3⟩
        clear hJx3 H4 R E q1 q2 q3 q4 c0
        gi_wp2
        refine bodyPost_ret (results_none rfl _ _ _) rfl ?_
        exact ⟨⟨_, rfl⟩, .inr ⟨_, E3.out.1, E3.out.2⟩⟩
    · have eK : K = m := by omega
      have E3 : Hid (J (List.finRange m) wr) := by
        show J _ _
        rw [← fins_all]
        have e := E.out
        rw [eK] at e
        exact e
      have ck' : ¬ (K : Int) < (m : Int) := by omega
      clear R E eK
      gi_wp2
      go_end0
      first | exact ⟨⟨_, rfl⟩, .inl E3.out⟩ | exact ⟨⟨_, rfl⟩, .inl ⟨_, rfl, E3.out⟩⟩
end Go.Proofs.YtnfkmpickmonoaaGreat
