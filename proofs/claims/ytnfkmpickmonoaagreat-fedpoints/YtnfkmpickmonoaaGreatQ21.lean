/-
  bound.Not.
-/
import Derived.Test.YtnfkmpickmonoaaGreatQ3
import Derived.Test.YtnfkmpickmonoaaGreatQ20
import Derived.Test.YtnfkmpickmonoaaGreatQ10
import Derived.OrdersHeld
import Derived.Deep.RegionHeld
namespace Go.Proofs.YtnfkmpickmonoaaGreat
open Go.RowKit
set_option linter.unusedVariables false
def notB (b : Int) : Int := if finB b then ofB (-(valV b)) (!valR b) else 0
def notE (b : Int) : Int := if rightB b then (if finB b then ofE (-(valV b)) else 4) else 7
theorem not_any (b : Int) (w : World) :
    Calls Tryz.prog 113 #[.int .i32 b] w fun e w' => e = .returned (.tuple #[.int .i32 (notB b), .int .i64 (notE b)]) ∧ w' = w := by
  cases f : finB b
  · have e1 : notB b = 0 := by simp [notB, f]
    rw [e1]
    cases r : rightB b
    · have e2 : notE b = 7 := by simp [notE, r]
      rw [e2]
      clear e1 e2
      go_enter Tryz.func113, Tryz.ntmps113
      go_wp2_with (go_at_call 37; refine (right_any _ _).mono ?_; rintro e w' ⟨rfl, rfl⟩)
      go_ret2
      exact ⟨rfl, rfl⟩
    · have e2 : notE b = 4 := by simp [notE, r, f]
      rw [e2]
      clear e1 e2
      go_enter Tryz.func113, Tryz.ntmps113
      go_wp2_with (first | (go_at_call 37; refine (right_any _ _).mono ?_; rintro e w' ⟨rfl, rfl⟩) | (go_at_call 104; refine (value_any _ _).mono ?_; rintro e w' ⟨rfl, rfl⟩))
      go_ret2
      exact ⟨rfl, rfl⟩
  · have r := right_of_fin f
    have l := (fin_iff b).1 f
    have l0 : -268435456 ≤ valV b := by simp [valV, f]; omega
    have l1 : valV b ≤ 268435456 := by simp [valV, f]; omega
    have e1 : notB b = ofB (-(valV b)) (!valR b) := by simp [notB, f]
    have e2 : notE b = ofE (-(valV b)) := by simp [notE, r, f]
    rw [e1, e2]
    clear e1 e2 l
    go_enter Tryz.func113, Tryz.ntmps113
    go_wp2_with (first | (go_at_call 37; refine (right_any _ _).mono ?_; rintro e w' ⟨rfl, rfl⟩) | (go_at_call 104; refine (value_any _ _).mono ?_; rintro e w' ⟨rfl, rfl⟩) | (go_at_call 135; refine (of_any _ _ _).mono ?_; rintro e w' ⟨rfl, rfl⟩))
    go_ret2
    exact ⟨rfl, rfl⟩
end Go.Proofs.YtnfkmpickmonoaaGreat

/-
  fed.keeps, fed.opposite.
-/
namespace Go.Proofs.YtnfkmpickmonoaaGreat
open Go.RowKit
set_option linter.unusedVariables false
set_option maxRecDepth 100000
theorem fkeeps_any (b n i j : Nat) (c : Row) (v : Int) (w : World) (hn : n ≤ 8) (hz : ZoneAt w b n c) (hi : i ≤ n) (hj : j ≤ n) :
    Calls Tryz.prog 81 #[.pointer (some ⟨b, 0, none⟩), .agg #[.int .i64 (i : Int), .int .i64 (j : Int), .int .i32 v]] w fun e w' => e = .returned (.bool (decide (c (i * (n + 1) + j) ≤ v))) ∧ Below w.heap.size w w' := by
  have B0 := below_one w (.cells #[.int .i64 (i : Int), .int .i64 (j : Int), .int .i32 v] 90)
  have H := hideD (cell_in b n i j c _ hn (hz.past B0) hi hj)
  generalize c (i * (n + 1) + j) = x at *
  have BB := hideD B0
  clear hz hn hi hj B0
  go_enter Tryz.func81, Tryz.ntmps81
  go_wp2_with fail
  refine H.out.mono ?_
  rintro e w1 ⟨rfl, hb⟩
  have s2 := kc ⟨w.heap.size, 2, none⟩ (.int .i32 v) hb (by simp [go_sem])
  have B1 := hideD (beyondD BB.out hb)
  clear hb H BB
  go_wp2_with fail
  go_ret
  exact ⟨rfl, B1.out⟩
theorem opp_any (i j v : Int) (w : World) :
    Calls Tryz.prog 83 #[.agg #[.int .i64 i, .int .i64 j, .int .i32 v]] w fun e w' => e = .returned (.agg #[.int .i64 j, .int .i64 i, .int .i32 (notB v)]) ∧ Below w.heap.size w w' := by
  have HN := hideD (fun w => not_any v w)
  generalize notB v = x at *
  generalize notE v = y at *
  go_enter Tryz.func83, Tryz.ntmps83
  go_wp2_with fail
  refine (HN.out _).mono ?_
  rintro e w1 ⟨rfl, rfl⟩
  clear HN
  go_wp2_with fail
  refine bodyPost_ret (v := .agg #[.int .i64 j, .int .i64 i, .int .i32 x]) (by simp [results, Tryz.results83, go_sem, *]) rfl ⟨rfl, ?_⟩
  exact ((Below.refl _ _).alloc (Nat.le_refl _) _).alloc (by simp) _
end Go.Proofs.YtnfkmpickmonoaaGreat

/-
  fed.left: what it yields, in plain words.
-/
namespace Go.Proofs.YtnfkmpickmonoaaGreat
open Go.RowKit
set_option linter.unusedVariables false
theorem notB_eq {v : Int} (h0 : -536870912 ≤ v) (h1 : v ≤ 536870913) : notB v = 1 - v := by
  have f : finB v = true := (fin_iff v).2 ⟨h0, h1⟩
  unfold notB
  rw [if_pos f]
  have e1 : valV v = v / 2 := by simp [valV, f]
  have e2 : valR v = decide (v % 2 = 1) := by simp [valR, f]
  rw [e1, e2]
  unfold ofB
  rw [if_neg (by omega)]
  by_cases c : v % 2 = 1
  · simp only [c]
    simp
    omega
  · simp only [c]
    simp
    omega
/-- A zone, or none, and an error. -/
abbrev YS := Option Row × Int
/-- One cell more. -/
def lStep (n m : Nat) (d : Row) (K : Nat) (ys : List YS) (x : Row) : List YS × Option Row :=
  if x K ≤ d K then (ys, some x) else
    match conZ n m x (K % (n + 1) * (n + 1) + K / (n + 1)) (1 - d K) with
    | none => (ys ++ [(none, 10)], none)
    | some o => match conZ n m x K (d K) with
      | none => (ys ++ [(some o, 0)] ++ [(none, 10)], none)
      | some x' => (ys ++ [(some o, 0)], some x')
def lNext (n m : Nat) (d : Row) (s : List YS × Option Row) (K : Nat) : List YS × Option Row :=
  match s.2 with
  | none => s
  | some x => lStep n m d K s.1 x
/-- Cell by cell. -/
def leftL (n m : Nat) (c d : Row) (ks : List Nat) : List YS × Option Row := ks.foldl (lNext n m d) ([], some c)
theorem leftL_snoc (n m : Nat) (c d : Row) (ks : List Nat) (K : Nat) : leftL n m c d (ks ++ [K]) = lNext n m d (leftL n m c d ks) K := by simp [leftL]
theorem leftL_end {n m : Nat} {c d : Row} {ks : List Nat} (h : (leftL n m c d ks).2 = none) (js : List Nat) : leftL n m c d (ks ++ js) = leftL n m c d ks := by
  unfold leftL at *
  rw [List.foldl_append]
  generalize List.foldl (lNext n m d) ([], some c) ks = s at *
  induction js with
  | nil => rfl
  | cons j js ih =>
    rw [List.foldl_cons]
    have : lNext n m d s j = s := by unfold lNext; rw [h]
    rw [this, ih]
/-- Have two zones a valuation in common? -/
def metB (n m : Nat) (c d : Row) : Bool := (closeR n (tgAll n (listOf d m) m (tgAll n (listOf c m) m (startR n (n + 1) 0)))).isSome
def leftY (n m : Nat) (c d : Row) : List YS := if metB n m c d = true then (leftL n m c d (List.range m)).1 else [(some c, 0)]
/-- What is yielded, with where it lies. -/
abbrev YE := Option ZR × Int
abbrev encY (x : YE) : Array Value := #[.pointer (x.1.map fun z => ⟨z.1, 0, none⟩), .int .i64 x.2]
def rowY (x : YE) : YS := (x.1.map (·.2), x.2)
/-- What it is told to be. -/
def TY (n m r : Nat) (x : YE) (W : World) : Prop := (x.2 = 0 → x.1 ≠ none) ∧ ∀ z, x.1 = some z → ZoneAt W z.1 n z.2 ∧ C32 z.2 ∧ ZC n m z.2 ∧ Safe r none W z.1
theorem conZ_zc {n m k : Nat} {c o : Row} {v : Int} (hn : n ≤ 8) (hm : m = (n + 1) * (n + 1)) (hc : ZC n m c) (hv : rightB v = true) (h : conZ n m c k v = some o) : ZC n m o :=
  zc_drf hn hm (fun j hj => by
    have := low_right (k := k) (zc_right hm hc) hv j
    rw [listOf_get _ _ _ hj]
    unfold rightB at this
    have := of_decide_eq_true this
    omega) h
theorem zc_32 {n m : Nat} {c : Row} (hm : m = (n + 1) * (n + 1)) (h : ZC n m c) : C32 c := fun k => by
  have := zc_right hm h k
  unfold rightB at this
  have := of_decide_eq_true this
  omega
end Go.Proofs.YtnfkmpickmonoaaGreat

/-
  A drawn region within a round of a loop over a function.
-/
namespace Go.Proofs.YtnfkmpickmonoaaGreat
open Go.RowKit Go.Shelf
set_option linter.unusedVariables false
set_option maxRecDepth 100000
def noDefer (o : Oper) : Bool := match o.op with
  | .defer _ => false
  | _ => true
theorem oper_in {l n : Nat} {P : Program} {o : Oper} {a : Act} {w : World} {K K' : Act → World → Prop} {Q : Exit → Act → World → Prop} (hd : noDefer o = true) (hK : ∀ a w, K a w → K' a w) (h : o.wp P a w K Q) : o.wpIn (Fence.wide.inRound l) n P a w K' Q := by
  refine ⟨fun _ _ => trivial, ?_⟩
  rw [Oper.semAt_eq _ _ _ (fun c hc => by unfold noDefer at hd; rw [hc] at hd; cases hd)]
  unfold Oper.wp at h
  generalize (execOp a.eval o).run P w = r at *
  cases r with
  | ok x w' =>
    cases x with
    | value v => exact hK _ _ h
    | skip => exact hK _ _ h
    | defer d => exact hK _ _ h
    | enter f args => exact ⟨fun e => (by cases e), callsIn_wide.2 (Calls.mono h (fun e w'' he => by cases e <;> first | exact hK _ _ he | exact he))⟩
    | row row args => 
      refine ⟨fun e => (by cases e), fun c cs _ => ?_⟩
      obtain ⟨v, w1, r, s⟩ := h c cs
      exact ⟨v, w1, hK _ _ r, stepsIn_wide.2 s⟩
    | _ => exact h.elim
  | halt x w' => cases x <;> first | exact h | exact h.elim
theorem any_in {l n : Nat} {P : Program} {md : Region.Mode} {ops : Array Oper} {Q : Exit → Act → World → Prop} (hd : ops.all noDefer = true) (hL : ¬ LetsOut Q) : ∀ (fuel : Nat) (listed : Array Bool) (a : Act) (w : World), wpAny P md ops Q fuel listed a w → wpAnyIn (Fence.wide.inRound l) n P md ops Q fuel listed a w
  | 0, _, _, _, h => h
  | fuel + 1, listed, a, w, h => ⟨h.1, fun i hi => by
    have h' := h.2 i hi
    unfold wpOp at h'
    unfold wpOpIn
    cases e : ops[i]? with
    | none => rw [e] at h'; exact any_in hd hL fuel _ _ _ h'
    | some o =>
      rw [e] at h'
      simp only at h' ⊢
      split
      · rename_i hw
        rw [if_pos hw] at h'
        rcases h' with h' | ⟨_, h'⟩
        · obtain ⟨hi1, hi2⟩ := Array.getElem?_eq_some_iff.1 e
          exact oper_in (by rw [← hi2]; exact (Array.all_eq_true.1 hd) i hi1) (fun a w => any_in hd hL fuel _ a w) h'
        · exact absurd h' hL
      · rename_i hw
        rw [if_neg hw] at h'
        exact ⟨fun _ _ => trivial, any_in hd hL fuel _ _ _ h'⟩⟩
theorem region_round {l n id : Nat} {P : Program} {ops : Array Oper} {Q : Exit → Act → World → Prop} {a : Act} {w : World} (S : World → Prop) (hm : P.follows .mixedOrders = true) (hd : ops.all noDefer = true) (hL : ¬ LetsOut Q) (hS : S w.drew)
    (h : S w.drew → wpAnyH P .any ops Q S ops.size (Array.replicate ops.size false) a w.drew) : (Code.region id ops true).wpIn (Fence.wide.inRound l) n P Q a w :=
  wpIn_region_any hm (any_in hd hL _ _ _ _ (wpAny_of_held _ _ _ _ (h hS)))
end Go.Proofs.YtnfkmpickmonoaaGreat
