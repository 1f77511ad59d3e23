/-
  point.limits: its walk over the cells of a zone, for every loop that ranges over it.
-/
import Derived.RangeFuncNested
import Derived.RangeFuncBound
import Derived.RangeFuncCalls
import Derived.RangeFuncLeaves
import Derived.Shelf.Abstract
import Derived.Shelf.RegionOpen
import Derived.WalkKit
import Derived.OwnWalkIn
import Derived.TacticsInMore
import Derived.LoopNIn
import Derived.LoopIn
import Derived.Maps.AppendAt
import Derived.Maps.OwnIn
import Derived.Test.YteifpplemohdcaaGreatDoorQ12
import Derived.Test.YteifpplemohdcaaGreatDoorQ1
import Derived.Deep.MidRow
import Derived.Laws.StructEq
import Derived.Test.YteifpplemohdcaaGreatDoorQ13
import Derived.Laws.AppendOwnNone
namespace Go.Proofs.YteifpplemohdcaaGreatDoor
open Go.RowKit Go.Shelf
set_option linter.unusedVariables false
set_option maxRecDepth 100000
attribute [local go_sem] Oper.semAt_some
theorem dim_any (b n : Nat) (c : Row) (w : World) (hz : ZoneAt w b n c) : Calls Tryz.prog 39 #[.pointer (some ⟨b, 0, none⟩)] w fun e w' => e = .returned (.int .i64 n) ∧ w' = w := by
  have h := hz.clocks
  clear hz
  go_enter Tryz.func39, Tryz.ntmps39
  go_wp2_with fail
  go_ret
  exact ⟨rfl, rfl⟩
/-- What is yielded: two numbers and a bound. -/
abbrev Lim := Nat × Nat × Int
abbrev limVs (x : Lim) : Array Value := #[.agg #[.int .i64 (x.1 : Int), .int .i64 (x.2.1 : Int), .int .i32 x.2.2]]
def limAt (n : Nat) (c : Row) (k : Nat) : Lim := (k / (n + 1), k % (n + 1), c k)
/-- The first numbers. -/
def finsL (m K : Nat) : List (Fin m) := (List.finRange m).take K
theorem fins_len {m K : Nat} (h : K ≤ m) : (finsL m K).length = K := by simp [finsL, h]
theorem fins_next {m K : Nat} (h : K < m) : finsL m (K + 1) = finsL m K ++ [⟨K, h⟩] := by
  unfold finsL
  rw [List.take_add_one]
  congr 1
  rw [List.getElem?_eq_getElem (by simpa using h)]
  simp
theorem fins_all (m : Nat) : finsL m m = List.finRange m := by
  unfold finsL
  exact List.take_of_length_le (by simp)
/-- All blocks of cells stay, one aside. -/
structure KeepB (n₀ : Nat) (X : Option Nat) (W W' : World) : Prop where
  below : Below n₀ W W'
  same : ∀ b o, W.heap[b]? = some o → o.isCells = true → some b ≠ X → W'.heap[b]? = some o
theorem KeepB.trans {n₀ : Nat} {X : Option Nat} {A B C : World} (h : KeepB n₀ X A B) (k : KeepB n₀ X B C) : KeepB n₀ X A C :=
  ⟨h.below.trans k.below, fun b o hb ho hne => k.same b o (h.same b o hb ho hne) ho hne⟩
theorem KeepB.put {n₀ : Nat} {X : Option Nat} {w : World} (hn : n₀ ≤ w.heap.size) (W : World) (l : Nat) (o o' : Obj) (hl : w.heap.size ≤ l) (h : W.heap[l]? = some o) (hc : o.isCells = false) (hw : o.isWalk = false) : KeepB n₀ X W (W.putObj l o') :=
  ⟨belowK_b hn W l o o' hl h hc hw, fun b p hb hp _ => by
    have := grownBy_putObj' W l o'
    rw [this.block b (Array.getElem?_eq_some_iff.1 hb).1 (fun q => by
      injection q with q
      subst q
      rw [hb] at h
      injection h with h
      rw [h] at hp
      rw [hp] at hc
      cases hc)]
    exact hb⟩
theorem KeepB.alloc {n₀ : Nat} {X : Option Nat} (W : World) (o : Obj) (hn : n₀ ≤ W.heap.size) : KeepB n₀ X W (W.alloc o) :=
  have hb : Below W.heap.size W (W.alloc o) := Below.alloc (Below.refl _ _) (Nat.le_refl _) _
  ⟨hb.mono hn, fun b p hb' _ _ => (hb.block b (Array.getElem?_eq_some_iff.1 hb').1).trans hb'⟩
theorem KeepB.of {n₀ : Nat} {X : Option Nat} {W W' : World} (hb : Below W.heap.size W W') (hn : n₀ ≤ W.heap.size) : KeepB n₀ X W W' :=
  ⟨hb.mono hn, fun b p hb' _ _ => (hb.block b (Array.getElem?_eq_some_iff.1 hb').1).trans hb'⟩
theorem cells_of_cell {w : World} {g k : Nat} {v : Value} (h : w.cell? ⟨g, k, none⟩ = some v) : ∃ o, w.heap[g]? = some o ∧ o.isCells = true := by
  unfold World.cell? at h
  cases e : w.heap[g]? with
  | none => simp [e] at h
  | some o =>
    refine ⟨o, rfl, ?_⟩
    cases o <;> simp_all [Obj.isCells]
theorem KeepB.cell {n₀ : Nat} {X : Option Nat} {W W' : World} (h : KeepB n₀ X W W') {g k : Nat} {v : Value} (hc : W.cell? ⟨g, k, none⟩ = some v) (hX : some g ≠ X) : W'.cell? ⟨g, k, none⟩ = some v := by
  obtain ⟨o, ho, hi⟩ := cells_of_cell hc
  rw [World.cell?_of_block (a := ⟨g, k, none⟩) ((h.same g o ho hi hX).trans ho.symm)]
  exact hc
theorem grown_below {B : Nat} {W W' : World} (h : Below B W W') (hB : W.heap.size ≤ B) : W.grownBy W' none := ⟨h.os, h.tape, h.output, h.size, fun k hk _ => h.block k (by omega)⟩
theorem limits_in (k b : Nat) (w : World) : CallsIn Fence.wide k Tryz.prog 47 #[.pointer (some ⟨b, 0, none⟩)] w fun e w' => e = .returned (.func (.func 80) #[] #[.pointer (some ⟨w.heap.size, 0, none⟩)]) ∧ w' = w.alloc (.cells #[.pointer (some ⟨b, 0, none⟩)] 38) := by
  refine callsIn_wide.2 ?_
  go_enter Tryz.func47, Tryz.ntmps47
  go_wp2
  go_ret
  exact ⟨rfl, rfl⟩
theorem two_ways {e : Ending} {p q : Prop} (h : (e = .returned (.bool true) ∧ p) ∨ (e = .returned (.bool false) ∧ q)) : ∃ r : Bool, e = .returned (.bool r) ∧ ((r = true ∧ p) ∨ (r = false ∧ q)) := by
  rcases h with ⟨h, h'⟩ | ⟨h, h'⟩
  · exact ⟨true, h, .inl ⟨rfl, h'⟩⟩
  · exact ⟨false, h, .inr ⟨rfl, h'⟩⟩
set_option maxHeartbeats 2000000 in
theorem limits1_in (k : Nat) (hk : 1 ≤ k) (n m : Nat) (hn : n ≤ 8) (hm : m = (n + 1) * (n + 1)) (c : Row) (l Bz b n₀ : Nat) (X : Option Nat) (J Jx : List (Fin m) → World → Prop)
    (hY : ∀ pre x W, J pre W → pre.length < m → YieldAt Fence.wide (k - 1) Tryz.prog l (limVs (limAt n c x.val)) W fun e W' =>
      (e = .returned (.bool true) ∧ J (pre ++ [x]) W' ∧ KeepB n₀ X W W') ∨ (e = .returned (.bool false) ∧ Jx (pre ++ [x]) W'))
    (W : World) (hJ : AbidesFrom W.heap.size J) (hBz : Boxed W Bz 38 (.pointer (some ⟨b, 0, none⟩))) (hz : ZoneAt W b n c) (hX : ∀ x, X = some x → x < W.heap.size) (h0 : J [] W) :
    CallsIn Fence.wide k Tryz.prog 80 #[.func (.yield l) #[] #[], .pointer (some ⟨Bz, 0, none⟩)] W fun e W' => (∃ v, e = .returned v) ∧
      ((∃ ys, ys = List.finRange m ∧ J ys W') ∨ (∃ pre, pre <+: List.finRange m ∧ Jx pre W')) := by
  have HD := hideR (dim_any b n c W hz)
  have HC := hideR (cells_any b n c W hz hn)
  rw [← hm] at HC
  have hm1 : m ≤ 81 := by rw [hm]; exact Nat.mul_le_mul (show n + 1 ≤ 9 by omega) (show n + 1 ≤ 9 by omega)
  have bx := hBz.cell
  obtain ⟨s, hs⟩ : ∃ s : Int, s = (n : Int) + 1 := ⟨_, rfl⟩
  have ws : wrap64 ((n : Int) + 1) = s := by rw [hs]; unfold wrap64; omega
  have s0 : ¬ s = 0 := by omega
  have HS := hideR hs
  have HM := hideR hm
  have HN := hideR hn
  clear hz hBz hs hm hn
  refine callsIn_of_wp Tryz.func80 rfl trivial ?_ rfl
  simp only [Tryz.ntmps80, List.size_toArray, List.length_cons, List.length_nil, Nat.reduceAdd, Nat.reduceSub, Array.replicate_succ, Array.replicate_zero, List.push_toArray, List.append_toArray, List.nil_append, List.cons_append]
  gi_wp2
  refine ⟨trivial, (callsIn_wide.2 HD.out).mono ?_⟩
  rintro e w1 ⟨rfl, e1⟩
  obtain rfl := e1.symm
  gi_wp2
  refine ⟨trivial, (callsIn_wide.2 HC.out).mono ?_⟩
  rintro e w1 ⟨⟨v, rfl, g, cap, rfl, g0, g1, hrow⟩, hb⟩
  rw [listOf_len]
  have hJ1 : Hid (J [] w1) := hJ _ _ _ none h0 (grown_below hb (Nat.le_refl _)) (by simp)
  have hgX : Hid (some g ≠ X) := fun e => by have := hX g e.symm; omega
  have hr1 : Hid (∀ j, j < m → w1.cell? ⟨g, j, none⟩ = some (.int .i32 (c j))) := fun j hj => by
    have h := hrow j (by rw [listOf_len]; exact hj)
    rw [listOf_get _ _ _ hj, Nat.zero_add] at h
    exact h
  have HY := hideR hY
  have HJ := hideR hJ
  clear HD HC hrow hb hJ hX h0 hY bx
  gi_wp2
  gi_loopw [12] (fun i wr => ∃ (K : Nat), i = .int .i64 (K : Int) ∧ K ≤ m ∧ Hid (∀ j, j < m → wr.cell? ⟨g, j, none⟩ = some (.int .i32 (c j))) ∧ Hid (J (finsL m K) wr))
    (fun i _ => m - (intOf i).toNat)
  case atStart => exact ⟨0, rfl, Nat.zero_le _, hr1, hJ1⟩
  case round =>
    obtain ⟨K, rfl, hK, R, E⟩ := hrel
    by_cases ck : K < m
    · have c0 := R.out K ck
      have k0 : (K : Int) < (m : Int) := by omega
      have q1 : wrap64 ((K : Int).tdiv s) = ((K / (n + 1) : Nat) : Int) := by
        have := Nat.div_le_self K (n + 1)
        rw [HS.out, show ((n : Int) + 1) = ((n + 1 : Nat) : Int) by omega, Int.tdiv_eq_ediv_of_nonneg (by omega), ← Int.natCast_ediv]
        generalize K / (n + 1) = z at *
        unfold wrap64
        omega
      have q3 : IntKind.i64.wrap ((K : Int).tdiv s) = ((K / (n + 1) : Nat) : Int) := by rw [← q1, IntKind.wrap_i64, wrap64]
      have q4 : IntKind.i64.wrap ((K : Int) / s) = ((K / (n + 1) : Nat) : Int) := by
        rw [← q3, Int.tdiv_eq_ediv_of_nonneg (by omega)]
      have mixed : Tryz.prog.follows Departure.mixedOrders = true := by kernel_rfl
      have q2 : (K : Int).tmod s = ((K % (n + 1) : Nat) : Int) := by
        rw [HS.out, show ((n : Int) + 1) = ((n + 1 : Nat) : Int) by omega, Int.tmod_eq_emod_of_nonneg (by omega), ← Int.natCast_emod]
      obtain ⟨fn, tmps, assign, body, hy, hR⟩ := HY.out (finsL m K) ⟨K, ck⟩ wr.drew (HJ.out _ _ _ none E.out (grown_below (Below.drew (Below.refl wr.heap.size wr)) (Nat.le_refl _)) (by simp)) (by rw [fins_len hK]; exact ck)
      have LN := hideR (fins_next ck)
      have e3 : Hid (limAt n c K = (K / (n + 1), K % (n + 1), c K)) := rfl
      rw [show limAt n c (Fin.val ⟨K, ck⟩) = (K / (n + 1), K % (n + 1), c K) from rfl] at hy
      simp only [limVs] at hy
      generalize hx : c K = x at *
      generalize hi : K / (n + 1) = i at *
      generalize hj : K % (n + 1) = j at *
      gi_wp2
      gi_region_with_o (refine hR.mono ?_; rintro e W3 h3; obtain ⟨r, rfl, h4⟩ := two_ways h3; have H4 := hideR h4; clear h4 h3 hR hy)
      rcases H4.out with ⟨rfl, hJ3, hk3⟩ | ⟨rfl, hJx3⟩
      · have R3 : Hid (∀ j, j < m → W3.cell? ⟨g, j, none⟩ = some (.int .i32 (c j))) := fun j hj => hk3.cell (R.out j hj) hgX.out
        have E3 : Hid (J (finsL m (K + 1)) W3) := by show J _ _; rw [LN.out]; exact hJ3
        clear hk3 hJ3 H4 R E q1 q2 q3 q4 c0
        gi_wp2
        go_roundw
        case rel => exact ⟨K + 1, by go_num, by omega, R3, E3⟩
        case measure => simp [intOf]; omega
      · have E3 : Hid (finsL m (K + 1) <+: List.finRange m ∧ Jx (finsL m (K + 1)) W3) := ⟨List.take_prefix _ _, by rw [LN.out]; exact hJx3⟩
        clear hJx3 H4 R E q1 q2 q3 q4 c0
        gi_wp2
        refine bodyPost_ret (results_none rfl _ _ _) rfl ?_
        exact ⟨⟨_, rfl⟩, .inr ⟨_, E3.out.1, E3.out.2⟩⟩
    · have eK : K = m := by omega
      have E3 : Hid (J (List.finRange m) wr) := by
        show J _ _
        rw [← fins_all]
        have e := E.out
        rw [eK] at e
        exact e
      have ck' : ¬ (K : Int) < (m : Int) := by omega
      clear R E eK
      gi_wp2
      go_end0
      first | exact ⟨⟨_, rfl⟩, .inl E3.out⟩ | exact ⟨⟨_, rfl⟩, .inl ⟨_, rfl, E3.out⟩⟩
end Go.Proofs.YteifpplemohdcaaGreatDoor

/-
  point.mayPass, Right, fits, byNumber.
-/
namespace Go.Proofs.YteifpplemohdcaaGreatDoor
open Go.RowKit Go.Shelf
set_option linter.unusedVariables false
set_option maxRecDepth 100000
theorem may_no (n d : Int) (w : World) (HR : Hid (AskR n d false)) : Calls Tryz.prog 26 #[rv n d] w fun e w' => e = .returned (.bool false) ∧ Below w.heap.size w w' := by
  go_enter Tryz.func26, Tryz.ntmps26
  go_wp2_with fail
  refine (HR.out _).mono ?_
  rintro e w1 ⟨rfl, hb⟩
  have hB := hideR (beyond (single w _) hb)
  clear hb
  go_wp2_with fail
  go_ret
  exact ⟨rfl, hB.out⟩
theorem may_yes (n d : Int) (w : World) (HR : Hid (AskR n d true)) : Calls Tryz.prog 26 #[rv n d] w fun e w' => e = .returned (.bool (decide (0 ≤ n))) ∧ Below w.heap.size w w' := by
  go_enter Tryz.func26, Tryz.ntmps26
  go_wp2_with fail
  refine (HR.out _).mono ?_
  rintro e w1 ⟨rfl, hb⟩
  have s0 := kc ⟨w.heap.size, 0, none⟩ (.int .i64 n) hb (by first | assumption | simp [go_sem, *])
  have hB := hideR (beyond (single w _) hb)
  clear hb
  go_wp2_with fail
  go_ret
  exact ⟨rfl, hB.out⟩
theorem mayPass_any (n d : Int) (w : World) (hn : I64 n) (hd : I64 d) : Calls Tryz.prog 26 #[rv n d] w fun e w' => e = .returned (.bool (okR n d)) ∧ Below w.heap.size w w' := by
  have k := askR n d hn hd
  cases r : rightR n d
  · rw [r] at k
    rw [show okR n d = false by simp [okR, r]]
    exact may_no n d w k
  · rw [r] at k
    rw [show okR n d = decide (0 ≤ n) by simp [okR, r]]
    exact may_yes n d w k
theorem right1_raw (n d : Int) (o : Bool) (w : World) (H : Hid (∀ w, Calls Tryz.prog 26 #[rv n d] w fun e w' => e = .returned (.bool o) ∧ Below w.heap.size w w')) : Calls Tryz.prog 25 #[rv n d] w fun e w' => e = .returned (.bool (!o)) ∧ Below w.heap.size w w' := by
  go_enter Tryz.func25, Tryz.ntmps25
  go_wp2_with fail
  refine (H.out _).mono ?_
  rintro e w1 ⟨rfl, hb⟩
  have hB := hideR (beyond (single w _) hb)
  clear hb
  go_wp2_with fail
  go_ret
  exact ⟨rfl, hB.out⟩
def okL (L : Rats) : Nat → Bool
  | 0 => true
  | k + 1 => okL L k && okR (L.n k) (L.d k)
theorem okL_at {L : Rats} : ∀ {m : Nat}, okL L m = true → ∀ k, k < m → okR (L.n k) (L.d k) = true
  | 0, _, k, hk => by omega
  | m + 1, h, k, hk => by
    simp only [okL, Bool.and_eq_true] at h
    by_cases e : k = m
    · subst e; exact h.2
    · exact okL_at h.1 k (by omega)
theorem okL_false {L : Rats} : ∀ {k : Nat} (m : Nat), k ≤ m → okL L k = false → okL L m = false := by
  intro k m hm h
  induction m with
  | zero => obtain rfl : k = 0 := by omega
            exact h
  | succ m ih =>
    by_cases e : k = m + 1
    · subst e; exact h
    · simp [okL, ih (by omega)]
set_option maxHeartbeats 1000000 in
theorem index_any (ad : Option Addr) (cap q : Nat) (L : Rats) (w : World) (hq : L.q = q) (q1 : q ≤ 9223372036854775807) (hV : RatV w ad L) (hI : RatI L) :
    Calls Tryz.prog 60 #[.slice ad q cap, .func (.func 25) #[] #[]] w fun e w' => (∃ z : Int, e = .returned (.int .i64 z) ∧ ((okL L q = true ∧ z = -1) ∨ (okL L q = false ∧ 0 ≤ z))) ∧ Below w.heap.size w w' := by
  have HV := hideR hV
  have HI := hideR hI
  have HQ := hideR hq
  clear hV hI hq
  go_enter Tryz.func60, Tryz.ntmps60
  go_wp2_with fail
  go_loopw [8] (fun s wr => ∃ (K : Nat), K ≤ q ∧ s = .int .i64 (K : Int) ∧ Hid (okL L K = true) ∧ Hid (Below w.heap.size w wr)) (fun s _ => q - (intOf s).toNat)
  case atStart => exact ⟨0, by omega, rfl, rfl, Below.refl _ _⟩
  case round =>
    obtain ⟨K, hK, rfl, O, B⟩ := hrel
    by_cases ck : K < q
    · obtain ⟨b, off, rfl, c0, c1⟩ := (HV.out.later B.out) K (by rw [HQ.out]; exact ck)
      have k0 : (K : Int) < (q : Int) := by omega
      have iK := HI.out K (by rw [HQ.out]; exact ck)
      have HR := hideR (fun w => right1_raw (L.n K) (L.d K) _ w (fun w => mayPass_any (L.n K) (L.d K) w iK.1 iK.2))
      have ON : Hid (okL L (K + 1) = okR (L.n K) (L.d K)) := by show _ = _; rw [okL, O.out]; simp
      clear iK
      generalize L.n K = x at *
      generalize L.d K = y at *
      cases o : okR x y with
      | true =>
        rw [o] at HR ON
        go_wp2_with fail
        refine (HR.out _).mono ?_
        rintro e w1 ⟨rfl, hb⟩
        have B1 := hideR (beyond B.out hb)
        clear hb B HR c0 c1
        go_wp2_with fail
        go_roundw
        case rel => exact ⟨K + 1, by omega, by go_num, ON, B1⟩
        case measure => simp [intOf]; omega
      | false =>
        rw [o] at HR ON
        have F : Hid (okL L q = false) := okL_false q (by omega) ON.out
        go_wp2_with fail
        refine (HR.out _).mono ?_
        rintro e w1 ⟨rfl, hb⟩
        have B1 := hideR (beyond B.out hb)
        clear hb B HR c0 c1
        go_wp2_with fail
        go_ret
        exact ⟨⟨_, rfl, .inr ⟨F.out, by omega⟩⟩, B1.out⟩
    · have eK : K = q := by omega
      have F : Hid (okL L q = true) := by rw [← eK]; exact O
      have k0 : ¬ (K : Int) < (q : Int) := by omega
      clear eK O
      go_wp2_with fail
      go_ret
      exact ⟨⟨_, rfl, .inl ⟨F.out, rfl⟩⟩, B.out⟩
theorem contains_any (ad : Option Addr) (cap q : Nat) (L : Rats) (w : World) (hq : L.q = q) (q1 : q ≤ 9223372036854775807) (hV : RatV w ad L) (hI : RatI L) :
    Calls Tryz.prog 24 #[.slice ad q cap, .func (.func 25) #[] #[]] w fun e w' => e = .returned (.bool (!okL L q)) ∧ Below w.heap.size w w' := by
  have H := hideR (index_any ad cap q L w hq q1 hV hI)
  clear hV hI hq
  go_enter Tryz.func24, Tryz.ntmps24
  go_wp2_with fail
  refine H.out.mono ?_
  rintro e w1 ⟨⟨z, rfl, h⟩, hb⟩
  have HB := hideR hb
  have HZ : Hid (decide (0 ≤ z) = !okL L q) := by
    show _ = _
    rcases h with ⟨h1, rfl⟩ | ⟨h1, h2⟩
    · rw [h1]; rfl
    · rw [h1]; simpa using h2
  clear h hb H
  go_wp2_with fail
  go_ret
  exact ⟨by rw [HZ.out]; rfl, HB.out⟩
/-- May a list be a valuation? -/
def rightL (L : Rats) : Bool := decide (L.q ≤ 8) && okL L L.q
theorem pright_no (ad : Option Addr) (cap q : Nat) (w : World) (h : ¬ (q : Int) ≤ 8) (q1 : q ≤ 9223372036854775807) :
    Calls Tryz.prog 11 #[.slice ad q cap] w fun e w' => e = .returned (.bool false) ∧ Below w.heap.size w w' := by
  go_enter Tryz.func11, Tryz.ntmps11
  go_wp2_with fail
  go_ret
  exact ⟨rfl, Below.refl _ _⟩
theorem pright_yes (ad : Option Addr) (cap q : Nat) (o : Bool) (w : World) (h : (q : Int) ≤ 8) (H : Hid (Calls Tryz.prog 24 #[.slice ad q cap, .func (.func 25) #[] #[]] w fun e w' => e = .returned (.bool (!o)) ∧ Below w.heap.size w w')) :
    Calls Tryz.prog 11 #[.slice ad q cap] w fun e w' => e = .returned (.bool o) ∧ Below w.heap.size w w' := by
  go_enter Tryz.func11, Tryz.ntmps11
  go_wp2_with fail
  refine H.out.mono ?_
  rintro e w1 ⟨rfl, hb⟩
  have HB := hideR hb
  clear hb H
  go_wp2_with fail
  go_ret
  exact ⟨by simp, HB.out⟩
theorem pright_any (ad : Option Addr) (cap q : Nat) (L : Rats) (w : World) (hq : L.q = q) (q1 : q ≤ 9223372036854775807) (hV : RatV w ad L) (hI : RatI L) :
    Calls Tryz.prog 11 #[.slice ad q cap] w fun e w' => e = .returned (.bool (rightL L)) ∧ Below w.heap.size w w' := by
  by_cases h : q ≤ 8
  · rw [show rightL L = okL L q by simp [rightL, hq, h]]
    exact pright_yes ad cap q _ w (by omega) (contains_any ad cap q L w hq q1 hV hI)
  · rw [show rightL L = false by simp [rightL, hq, h]]
    exact pright_no ad cap q w (by omega) q1
end Go.Proofs.YteifpplemohdcaaGreatDoor

/-
  point.fits, byNumber.
-/
namespace Go.Proofs.YteifpplemohdcaaGreatDoor
open Go.RowKit Go.Shelf
set_option linter.unusedVariables false
set_option maxRecDepth 100000
theorem fits_no (b : Nat) (v : Value) (w : World) (H : Hid (Calls Tryz.prog 11 #[v] w fun e w' => e = .returned (.bool false) ∧ Below w.heap.size w w')) : Calls Tryz.prog 44 #[.pointer (some ⟨b, 0, none⟩), v] w fun e w' => e = .returned (.bool false) ∧ Below w.heap.size w w' := by
  go_enter Tryz.func44, Tryz.ntmps44
  go_wp2_with fail
  refine H.out.mono ?_
  rintro e w1 ⟨rfl, hb⟩
  have HB := hideR hb
  clear hb H
  go_wp2_with fail
  go_ret
  exact ⟨rfl, HB.out⟩
theorem fits_yes (b n q cap : Nat) (ad : Option Addr) (c : Row) (w : World) (hz : ZoneAt w b n c) (H : Hid (Calls Tryz.prog 11 #[.slice ad q cap] w fun e w' => e = .returned (.bool true) ∧ Below w.heap.size w w')) : Calls Tryz.prog 44 #[.pointer (some ⟨b, 0, none⟩), .slice ad q cap] w fun e w' => e = .returned (.bool ((q : Int) == (n : Int))) ∧ Below w.heap.size w w' := by
  have HZ := hideR hz
  clear hz
  go_enter Tryz.func44, Tryz.ntmps44
  go_wp2_with fail
  refine H.out.mono ?_
  rintro e w1 ⟨rfl, hb⟩
  have HB := hideR hb
  have HD := hideR (dim_any b n c w1 (HZ.out.past hb))
  clear hb H HZ
  go_wp2_with fail
  refine HD.out.mono ?_
  rintro e w2 ⟨rfl, rfl⟩
  go_wp2_with fail
  go_ret
  exact ⟨rfl, HB.out⟩
/-- Is a list a valuation of n clocks? -/
def fitB (L : Rats) (n : Nat) : Bool := rightL L && (L.q == n)
theorem fitB_iff {L : Rats} {n : Nat} (hn : n ≤ 8) : fitB L n = true ↔ L.q = n ∧ ∀ k, k < n → okR (L.n k) (L.d k) = true := by
  unfold fitB rightL
  constructor
  · intro h
    simp only [Bool.and_eq_true, decide_eq_true_eq, beq_iff_eq] at h
    exact ⟨h.2, fun k hk => okL_at h.1.2 k (by omega)⟩
  · rintro ⟨h1, h2⟩
    have : okL L L.q = true := by
      rw [h1]
      clear h1 hn
      induction n with
      | zero => rfl
      | succ n ih => rw [okL, ih (fun k hk => h2 k (by omega)), h2 n (by omega)]; rfl
    rw [this, h1]
    simp [hn]
theorem fits_any (b n q cap : Nat) (ad : Option Addr) (c : Row) (L : Rats) (w : World) (hz : ZoneAt w b n c) (hq : L.q = q) (q1 : q ≤ 9223372036854775807) (hV : RatV w ad L) (hI : RatI L) :
    Calls Tryz.prog 44 #[.pointer (some ⟨b, 0, none⟩), .slice ad q cap] w fun e w' => e = .returned (.bool (fitB L n)) ∧ Below w.heap.size w w' := by
  have H := pright_any ad cap q L w hq q1 hV hI
  cases r : rightL L
  · rw [r] at H
    rw [show fitB L n = false by simp [fitB, r]]
    exact fits_no b _ w H
  · rw [r] at H
    rw [show fitB L n = ((q : Int) == (n : Int)) by simp only [fitB, r, Bool.true_and, hq]; rw [Bool.eq_iff_iff]; simp only [beq_iff_eq]; omega]
    exact fits_yes b n q cap ad c w hz H
/-- A row is appended that is nil or not. -/
theorem wp_app_any {P : Program} (w : World) {ops : Array Oper} {rest : List Oper} {o : Oper} {a : Act} {Q : Exit → Act → World → Prop} (hgd : o.guard = none) (s x : Operand) (t : TypeId)
    (ho : o.op = .call { callee := .builtin .append, args := #[s, x], argTypes := #[t, t] })
    (base : Nat) (e : TypeId) (i : TypeInfo) (z : Value) (size bytes : Nat) (ht : P.underlying t = some (.slice e)) (hi : P.info? e = some i) (hz : i.zero = some z)
    (hsize : i.size = size) (hby : i.bytes = bytes) (hzs : z.cells.size = size) (hsz : 0 < size)
    (v : Value) (n : Nat) (xs : List Value) (hs : a.eval s = v) (hown : w.ownsRow base e size v n xs)
    (ad : Option Addr) (m c : Nat) (news : List Value) (hx : a.eval x = .slice ad m c) (hnil : ad = none → m = 0 ∧ c = 0) (hl : news.length = m * size) (hnews : ∀ d, ad = some d → ∀ j u, news[j]? = some u → w.cell? (d.add j) = some u) (h1 : ∀ u ∈ news, u.oneCell' = true)
    (h63 : n + m ≤ maxLen) (hbytes : (n + m) * bytes ≤ 140737488355328) (hbase : base ≤ w.heap.size)
    (h : ∀ v' w', w'.ownsRow base e size v' (n + m) (xs ++ news) → w' = w ∨ w.grownBy w' v.ownBlock → wpList P ops Q rest (a.put o.dst v') w') : wpList P ops Q (o :: rest) a w := by
  cases ad with
  | none =>
    obtain ⟨rfl, rfl⟩ := hnil rfl
    have e0 : news = [] := List.eq_nil_of_length_eq_zero (by simpa using hl)
    subst e0
    exact wpList_append_own_none hgd s x t ho base e i size ht hi v n xs hs hown hx (h v w (by simpa using hown) (.inl rfl))
  | some d => exact wpList_append_own w hgd s x t ho base e i z size bytes ht hi hz hsize hby hzs hsz v n xs hs hown d m c news hx hl (hnews d rfl) h1 h63 hbytes hbase fun v' w' h2 h3 _ => h v' w' h2 (.inr h3)
/-- Fractions as cells. -/
def ratJ (L : Rats) (j : Nat) : Value := .int .i64 (if j % 2 = 0 then L.n (j / 2) else L.d (j / 2))
def ratC (L : Rats) : List Value := (List.range (L.q * 2)).map (ratJ L)
theorem ratC_len (L : Rats) : (ratC L).length = L.q * 2 := by simp [ratC]
theorem ratC_get (L : Rats) (j : Nat) (u : Value) (h : (ratC L)[j]? = some u) : j < L.q * 2 ∧ u = ratJ L j := by
  unfold ratC at h
  rw [List.getElem?_map] at h
  by_cases hj : j < L.q * 2
  · rw [List.getElem?_range hj] at h
    injection h with h
    exact ⟨hj, h.symm⟩
  · rw [List.getElem?_eq_none (by simp; omega)] at h
    cases h
theorem ratC_one (L : Rats) : ∀ u ∈ ratC L, u.oneCell' = true := by
  intro u hu
  obtain ⟨j, _, rfl⟩ := List.mem_map.1 hu
  rfl
theorem ratC_news {w : World} {d : Addr} {L : Rats} (h : RatV w (some d) L) : ∀ j u, (ratC L)[j]? = some u → w.cell? (d.add j) = some u := fun j u hu => by
  obtain ⟨hj, rfl⟩ := ratC_get L j u hu
  obtain ⟨b, off, e, c0, c1⟩ := h (j / 2) (by omega)
  injection e with e
  subst e
  rw [Addr.add_lit]
  unfold ratJ
  by_cases p : j % 2 = 0
  · rw [if_pos p, show off + j = off + j / 2 * 2 by omega]
    exact c0
  · rw [if_neg p, show off + j = off + j / 2 * 2 + 1 by omega]
    exact c1
/-- A row of fractions of the call's own. -/
def RowR (w : World) (g off : Nat) (L : Rats) : Prop := ∀ k, k < L.q → w.cell? ⟨g, off + k * 2, none⟩ = some (.int .i64 (L.n k)) ∧ w.cell? ⟨g, off + k * 2 + 1, none⟩ = some (.int .i64 (L.d k))
theorem RowR.past {w w' : World} {g off : Nat} {L : Rats} (h : RowR w g off L) (hb : Below w.heap.size w w') : RowR w' g off L := fun k hk => ⟨kc _ _ hb (h k hk).1, kc _ _ hb (h k hk).2⟩
def aheadL (L : Rats) : Rats := ⟨L.q + 1, fun k => if k = 0 then 0 else L.n (k - 1), fun k => if k = 0 then 1 else L.d (k - 1)⟩
theorem ahead_cells (L : Rats) (j : Nat) (hj : j < (L.q + 1) * 2) : ([.int .i64 0, .int .i64 1] ++ ratC L)[j]? = some (ratJ (aheadL L) j) := by
  match j, hj with
  | 0, _ => rfl
  | 1, _ => rfl
  | j + 2, hj =>
    show (ratC L)[j]? = _
    rw [ratC, List.getElem?_map, List.getElem?_range (by omega)]
    show some (ratJ L j) = _
    unfold ratJ aheadL
    simp only [show (j + 2) % 2 = j % 2 by omega, show (j + 2) / 2 = j / 2 + 1 by omega, Nat.add_sub_cancel, if_neg (Nat.succ_ne_zero _)]
theorem own_two (w : World) (x y : Value) (e : TypeId) : (w.alloc (.cells #[x, y] e)).ownsRow w.heap.size e 2 (.slice (some ⟨w.heap.size, 0, none⟩) 1 1) 1 [x, y] :=
  ⟨by simp, .inr ⟨w.heap.size, 1, #[x, y], rfl, Nat.le_refl _, heap_alloc_new w _, Nat.le_refl _, by unfold maxLen; omega, by simp, by simp⟩⟩
theorem own_le {b m c k : Nat} (h : (Value.slice (some ⟨b, 0, none⟩) m c).ownBlock = some k) : b ≤ k := Nat.le_of_eq (by simpa [Value.ownBlock] using h)
theorem byNumber_any (ad : Option Addr) (cap q : Nat) (L : Rats) (w : World) (hq : L.q = q) (q1 : q ≤ 8) (hnil : ad = none → q = 0 ∧ cap = 0) (hV : RatV w ad L) :
    Calls Tryz.prog 45 #[.slice ad q cap] w fun e w' => (∃ g cap', e = .returned (.slice (some ⟨g, 0, none⟩) (q + 1) cap') ∧ w.heap.size ≤ g ∧ RowR w' g 0 (aheadL L)) ∧ Below w.heap.size w w' := by
  obtain ⟨i0, hi, hz0, hz1, hz2⟩ := info_parts info_rat
  have HV := hideR hV
  have HO := hideR (fun w => ratOf_any 0 w)
  clear hV
  go_enter Tryz.func45, Tryz.ntmps45
  go_wp2_with (first
    | (go_at_call 46; refine (HO.out _).mono ?_; rintro e w1 ⟨rfl, hb1⟩; have HB1 := hideR hb1; clear hb1)
    | (at_builtin; refine wp_app_any _ rfl _ _ 22 rfl w1.heap.size 33 i0 (.agg #[.int .i64 0, .int .i64 0]) 2 16 Tryz.underlying22 hi hz0 hz1 hz2 rfl (by decide) _ _ _ rfl (own_two w1 (.int .i64 0) (.int .i64 1) 33) ad q cap (ratC L) rfl hnil (by rw [ratC_len, hq]) (fun d e j u h => ratC_news (L := L) (d := d) (e ▸ HV.out.later (beyond HB1.out (single _ _))) j u h) (ratC_one L) (by unfold maxLen; omega) (by omega) (by simp) ?_; intro v' w2 hown hgrow))
  have hb2 : Hid (Below w1.heap.size w1 w2) := by
    rcases hgrow with e | hg
    · rw [e]; exact single _ _
    · exact (single w1 _).grown hg (by simp) (fun k hk => own_le hk)
  have hown' : w2.ownsRow w1.heap.size 33 2 v' (q + 1) ([.int .i64 0, .int .i64 1] ++ ratC L) := by rw [Nat.add_comm q 1]; exact hown
  obtain ⟨g, cap', rfl⟩ := ownsRow_succ hown'
  have hr : Hid (w1.heap.size ≤ g ∧ RowR w2 g 0 (aheadL L)) := by
    refine ⟨(hown'.lt g rfl).1, fun k hk => ?_⟩
    have hk' : k < L.q + 1 := hk
    have h0 := World.ownsRow.cells hown' (g := g) rfl (k * 2) _ (ahead_cells L (k * 2) (by omega))
    have h1 := World.ownsRow.cells hown' (g := g) rfl (k * 2 + 1) _ (ahead_cells L (k * 2 + 1) (by omega))
    rw [Addr.add_lit] at h0 h1
    unfold ratJ at h0 h1
    rw [if_pos (by omega), show k * 2 / 2 = k by omega] at h0
    rw [if_neg (by omega), show (k * 2 + 1) / 2 = k by omega] at h1
    exact ⟨h0, by rw [Nat.add_assoc]; exact h1⟩
  clear hown hown' hgrow
  go_ret
  exact ⟨⟨g, cap', rfl, Nat.le_trans HB1.out.size hr.out.1, hr.out.2⟩, beyond HB1.out hb2.out⟩
end Go.Proofs.YteifpplemohdcaaGreatDoor
