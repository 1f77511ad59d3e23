/-
  Valuations on the grid of n + 1: raised till all bounds of a closed form are kept, each clock as little as can be; behind as many rounds as there are clocks, and two, all are kept.
-/
import Derived.Test.YteifpplemohdcaaGreatQ14
import Derived.Test.YteifpplemohdcaaGreatQ18
import Derived.OrdersHeld
import Derived.Deep.RegionHeld
namespace Go.Proofs.YteifpplemohdcaaGreat
open Go.RowKit
set_option linter.unusedVariables false
set_option maxRecDepth 100000
/-- What a bound asks for, in units of the grid. -/
def gW (b g : Int) : Int := b / 2 * g - (if b % 2 = 1 then 0 else 1)
/-! ### The rounds -/
abbrev Val := Nat → Int
def updV (v : Val) (j : Nat) (x : Int) : Val := fun a => if a = j then x else v a
def gStep (p : Mat) (g : Int) (i j : Nat) (v : Val) : Val := if p i j = opn then v else if v j < v i - gW (p i j) g then updV v j (v i - gW (p i j) g) else v
def gRow (p : Mat) (g : Int) (i : Nat) : Nat → Val → Val
  | 0, v => v
  | c + 1, v => gStep p g i c (gRow p g i c v)
def gAll (n : Nat) (p : Mat) (g : Int) : Nat → Val → Val
  | 0, v => v
  | c + 1, v => gRow p g c (n + 1) (gAll n p g c v)
def gRounds (n : Nat) (p : Mat) (g : Int) : Nat → Val → Val
  | 0, v => v
  | c + 1, v => gAll n p g (n + 1) (gRounds n p g c v)
end Go.Proofs.YteifpplemohdcaaGreat

/-
  A drawn region within a round of a loop over a function; rounds that raise numbers, as they stand in a row.
-/
namespace Go.Proofs.YteifpplemohdcaaGreat
open Go.RowKit Go.Shelf
set_option linter.unusedVariables false
set_option maxRecDepth 100000
def noDefer (o : Oper) : Bool := match o.op with
  | .defer _ => false
  | _ => true
theorem oper_in {l n : Nat} {P : Program} {o : Oper} {a : Act} {w : World} {K K' : Act → World → Prop} {Q : Exit → Act → World → Prop} (hd : noDefer o = true) (hK : ∀ a w, K a w → K' a w) (h : o.wp P a w K Q) : o.wpIn (Fence.wide.inRound l) n P a w K' Q := by
  refine ⟨fun _ _ => trivial, ?_⟩
  rw [Oper.semAt_eq _ _ _ (fun c hc => by unfold noDefer at hd; rw [hc] at hd; cases hd)]
  unfold Oper.wp at h
  generalize (execOp a.eval o).run P w = r at *
  cases r with
  | ok x w' =>
    cases x with
    | value v => exact hK _ _ h
    | skip => exact hK _ _ h
    | defer d => exact hK _ _ h
    | enter f args => exact ⟨fun e => (by cases e), callsIn_wide.2 (Calls.mono h (fun e w'' he => by cases e <;> first | exact hK _ _ he | exact he))⟩
    | row row args => 
      refine ⟨fun e => (by cases e), fun c cs _ => ?_⟩
      obtain ⟨v, w1, r, s⟩ := h c cs
      exact ⟨v, w1, hK _ _ r, stepsIn_wide.2 s⟩
    | _ => exact h.elim
  | halt x w' => cases x <;> first | exact h | exact h.elim
theorem any_in {l n : Nat} {P : Program} {md : Region.Mode} {ops : Array Oper} {Q : Exit → Act → World → Prop} (hd : ops.all noDefer = true) (hL : ¬ LetsOut Q) : ∀ (fuel : Nat) (listed : Array Bool) (a : Act) (w : World), wpAny P md ops Q fuel listed a w → wpAnyIn (Fence.wide.inRound l) n P md ops Q fuel listed a w
  | 0, _, _, _, h => h
  | fuel + 1, listed, a, w, h => ⟨h.1, fun i hi => by
    have h' := h.2 i hi
    unfold wpOp at h'
    unfold wpOpIn
    cases e : ops[i]? with
    | none => rw [e] at h'; exact any_in hd hL fuel _ _ _ h'
    | some o =>
      rw [e] at h'
      simp only at h' ⊢
      split
      · rename_i hw
        rw [if_pos hw] at h'
        rcases h' with h' | ⟨_, h'⟩
        · obtain ⟨hi1, hi2⟩ := Array.getElem?_eq_some_iff.1 e
          exact oper_in (by rw [← hi2]; exact (Array.all_eq_true.1 hd) i hi1) (fun a w => any_in hd hL fuel _ a w) h'
        · exact absurd h' hL
      · rename_i hw
        rw [if_neg hw] at h'
        exact ⟨fun _ _ => trivial, any_in hd hL fuel _ _ _ h'⟩⟩
theorem region_round {l n id : Nat} {P : Program} {ops : Array Oper} {Q : Exit → Act → World → Prop} {a : Act} {w : World} (S : World → Prop) (hm : P.follows .mixedOrders = true) (hd : ops.all noDefer = true) (hL : ¬ LetsOut Q) (hS : S w.drew)
    (h : S w.drew → wpAnyH P .any ops Q S ops.size (Array.replicate ops.size false) a w.drew) : (Code.region id ops true).wpIn (Fence.wide.inRound l) n P Q a w :=
  wpIn_region_any hm (any_in hd hL _ _ _ _ (wpAny_of_held _ _ _ _ (h hS)))
/-- Of a row of cells: the bounds as a matrix. -/
def pW (n : Nat) (c : Row) : Mat := fun i j => if c (i * (n + 1) + j) = 2147483647 then opn else c (i * (n + 1) + j)
theorem pW_at (n : Nat) (c : Row) (k : Nat) : pW n c (k / (n + 1)) (k % (n + 1)) = if c k = 2147483647 then opn else c k := by
  unfold pW
  rw [Nat.mul_comm, Nat.div_add_mod]
/-- One cell's step. -/
def stepK (n : Nat) (p : Mat) (g : Int) (v : Val) (k : Nat) : Val := gStep p g (k / (n + 1)) (k % (n + 1)) v
def mixG (n : Nat) (p : Mat) (g : Int) : Nat → Val → Val
  | 0, v => v
  | K + 1, v => stepK n p g (mixG n p g K v) K
theorem mix_row (n : Nat) (p : Mat) (g : Int) (v : Val) (i : Nat) : ∀ j, j ≤ n + 1 → mixG n p g (i * (n + 1) + j) v = gRow p g i j (mixG n p g (i * (n + 1)) v)
  | 0, _ => rfl
  | j + 1, hj => by
    rw [← Nat.add_assoc, mixG, mix_row n p g v i j (by omega), gRow, stepK]
    have e1 : (i * (n + 1) + j) / (n + 1) = i := by rw [Nat.mul_comm, Nat.mul_add_div (by omega), Nat.div_eq_of_lt (by omega)]; rfl
    have e2 : (i * (n + 1) + j) % (n + 1) = j := by rw [Nat.mul_comm, Nat.mul_add_mod, Nat.mod_eq_of_lt (by omega)]
    rw [e1, e2]
theorem mix_all (n : Nat) (p : Mat) (g : Int) (v : Val) : ∀ i, mixG n p g (i * (n + 1)) v = gAll n p g i v
  | 0 => by rw [Nat.zero_mul]; rfl
  | i + 1 => by
    rw [Nat.succ_mul, mix_row n p g v i (n + 1) (Nat.le_refl _), mix_all n p g v i]
    rfl
theorem fold_mix (n m : Nat) (p : Mat) (g : Int) (v : Val) : ∀ K, K ≤ m → (finsL m K).foldl (fun v k => stepK n p g v k.val) v = mixG n p g K v
  | 0, _ => rfl
  | K + 1, h => by rw [fins_next (by omega), List.foldl_append, fold_mix n m p g v K (by omega)]; rfl
theorem fold_all (n m : Nat) (p : Mat) (g : Int) (v : Val) (hm : m = (n + 1) * (n + 1)) : (List.finRange m).foldl (fun v k => stepK n p g v k.val) v = gAll n p g (n + 1) v := by
  rw [← fins_all, fold_mix n m p g v m (Nat.le_refl _), hm, mix_all]
/-- Numbers stay small. -/
theorem gW_bd {b g : Int} (h0 : -536870912 ≤ b) (h1 : b ≤ 536870913) (g0 : 1 ≤ g) (g1 : g ≤ 9) : -2415919105 ≤ gW b g ∧ gW b g ≤ 2415919105 := by
  unfold gW
  have a0 : -268435456 ≤ b / 2 := by omega
  have a1 : b / 2 ≤ 268435456 := by omega
  generalize b / 2 = x at *
  have e1 : -268435456 * 9 ≤ x * g := by
    rcases Int.le_total 0 x with h | h
    · have := Int.mul_nonneg h (show 0 ≤ g by omega); omega
    · have := Int.mul_le_mul_of_nonpos_left (a := x) (b := 9) (c := g) h g1
      omega
  have e2 : x * g ≤ 268435456 * 9 := by
    rcases Int.le_total 0 x with h | h
    · have := Int.mul_le_mul_of_nonneg_left g1 h; omega
    · have := Int.mul_nonpos_of_nonpos_of_nonneg h (show 0 ≤ g by omega); omega
  split <;> omega
theorem stepK_bd {n : Nat} {c : Row} {g B : Int} (hc : ∀ k, rightB (c k) = true) (g0 : 1 ≤ g) (g1 : g ≤ 9) {v : Val} (h : ∀ j, 0 ≤ v j ∧ v j ≤ B) (k : Nat) : ∀ j, 0 ≤ stepK n (pW n c) g v k j ∧ stepK n (pW n c) g v k j ≤ B + 2415919105 := by
  intro j
  have hj := h j
  have hr := hc k
  by_cases e : c k = 2147483647
  · have e2 : stepK n (pW n c) g v k = v := by
      unfold stepK gStep
      rw [pW_at, if_pos e, if_pos rfl]
    rw [e2]
    exact ⟨hj.1, by omega⟩
  · simp only [rightB, decide_eq_true_eq] at hr
    have w := gW_bd (b := c k) (g := g) (by omega) (by omega) g0 g1
    have hi := h (k / (n + 1))
    have hz := h (k % (n + 1))
    have ho := opn_val
    have e2 : stepK n (pW n c) g v k = if v (k % (n + 1)) < v (k / (n + 1)) - gW (c k) g then updV v (k % (n + 1)) (v (k / (n + 1)) - gW (c k) g) else v := by
      unfold stepK gStep
      rw [pW_at, if_neg e, if_neg (by omega)]
    rw [e2]
    split
    · unfold updV
      split
      · omega
      · exact ⟨hj.1, by omega⟩
    · exact ⟨hj.1, by omega⟩
theorem fold_bd {n m : Nat} {c : Row} {g : Int} (hc : ∀ k, rightB (c k) = true) (g0 : 1 ≤ g) (g1 : g ≤ 9) : ∀ (l : List (Fin m)) {v : Val} {B : Int}, (∀ j, 0 ≤ v j ∧ v j ≤ B) → ∀ j, 0 ≤ l.foldl (fun v k => stepK n (pW n c) g v k.val) v j ∧ l.foldl (fun v k => stepK n (pW n c) g v k.val) v j ≤ B + l.length * 2415919105
  | [], v, B, h, j => by simpa using h j
  | k :: l, v, B, h, j => by
    have := fold_bd (n := n) hc g0 g1 l (stepK_bd (n := n) hc g0 g1 h k.val) j
    rw [List.foldl_cons, List.length_cons]
    push_cast
    omega
theorem most_any (g v : Int) (r : Bool) (w : World) (h : I64 (v * g)) (h' : I64 (v * g - 1)) : Calls Tryz.prog 127 #[.int .i64 g, .int .i64 v, .bool r] w fun e w' => e = .returned (.int .i64 (v * g - (if r then 0 else 1))) ∧ w' = w := by
  obtain ⟨z, hz⟩ : ∃ z, z = v * g := ⟨_, rfl⟩
  rw [← hz] at h h'
  have e1 : wrap64 (v * g) = z := by rw [← hz]; exact (w64 h).1
  have e2 : wrap64 (z - 1) = z - 1 := (w64 h').1
  have HZ := hideR hz
  rw [← hz]
  clear hz h h'
  cases r
  · go_enter Tryz.func127, Tryz.ntmps127
    go_wp2_with fail
    go_ret
    exact ⟨rfl, rfl⟩
  · go_enter Tryz.func127, Tryz.ntmps127
    go_wp2_with fail
    go_ret
    exact ⟨by simp, rfl⟩
end Go.Proofs.YteifpplemohdcaaGreat
