/-
  Fractions of twelfths; which, keeps, holds of the law; Cell, Empty, Dim.
-/
import Derived.Test.YtjanibholjimkaaQ31
import Derived.Test.YtjanibholjimkaaQ47
import Derived.Test.YtjanibholjimkaaQ9
import Derived.Deep.RegionHeld3
namespace Go.Proofs.Ytjanibholjimkaa
open Go.RowKit Go.Shelf Go.Deep
set_option linter.unusedVariables false
set_option maxRecDepth 100000
attribute [local go_sem] Oper.semAt_some
/-! ### Twelfths -/
def fN (X : Int) : Int := (canR X 12).1
def fD (X : Int) : Int := (canR X 12).2.1
theorem fr_err {X : Int} (h0 : -10000000 ≤ X) (h1 : X ≤ 10000000) : (canR X 12).2.2 = 0 := by
  have l1 : sz X / gcdI (sz X) 12 ≤ sz X := Int.ediv_le_self _ (sz_nn X)
  have l2 : 12 / gcdI (sz X) 12 ≤ 12 := Int.ediv_le_self _ (by decide)
  have s1 : sz X ≤ 10000000 := by unfold sz; split <;> omega
  have ch : canHold (sz X / gcdI (sz X) 12) (12 / gcdI (sz X) 12) (decide (X < 0)) = true := by
    unfold canHold mostOf
    by_cases c : X < 0 <;> simp [c] <;> omega
  show heldE _ _ _ = 0
  unfold heldE
  rw [ch]
  rfl
/-- The fraction of so many twelfths. -/
structure Fr (X n d : Int) : Prop where
  can : canR X 12 = (n, d, 0)
  right : rightR n d = true
  eq : n * 12 = X * d
  i1 : I64 n
  i2 : I64 d
  pos : 0 < d
theorem fr_ok {X : Int} (h0 : -10000000 ≤ X) (h1 : X ≤ 10000000) : Fr X (fN X) (fD X) := by
  have e := fr_err h0 h1
  obtain ⟨a, b, c, d, f⟩ := can_ok (P := X) (Q := 12) (by decide) e
  have p := (right_pos a).1
  refine ⟨?_, a, b, ⟨c, d⟩, ⟨by unfold fD; omega, f⟩, p⟩
  unfold fN fD
  rw [← e]
theorem fr_whole {k : Int} (h0 : 0 ≤ k) (h1 : k ≤ 100000) : fN (k * 12) = k ∧ fD (k * 12) = 1 := by
  have r : rightR k 1 = true := by unfold rightR gcdI; simp; unfold sz; simp
  have := can_right (P := k * 12) (Q := 12) (by decide) r (by omega) (by omega) (by decide) (by omega)
  unfold fN fD
  rw [this]
  exact ⟨rfl, rfl⟩
theorem rem_swap (a b c : Int) : a * b * c = a * c * b := by rw [Int.mul_assoc, Int.mul_comm b c, ← Int.mul_assoc]
theorem fr_add {X Y n d bn bd : Int} (h : Fr X n d) (hb : rightR bn bd = true) (e : bn * 12 = Y * bd) : addT n d bn bd = canR (X + Y) 12 := by
  have p := (right_pos hb).1
  unfold addT
  rw [h.right, hb]
  show canR (n * bd + bn * d) (d * bd) = _
  refine can_congr (Int.mul_pos h.pos p) (by decide) ?_
  have e1 : n * bd * 12 = X * (d * bd) := by rw [rem_swap, h.eq, Int.mul_assoc]
  have e2 : bn * d * 12 = Y * (d * bd) := by rw [rem_swap, e, Int.mul_assoc, Int.mul_comm bd d]
  rw [Int.add_mul, Int.add_mul, e1, e2]
theorem fr_sub {X Y n d bn bd : Int} (h : Fr X n d) (g : Fr Y bn bd) : subT n d bn bd = canR (X - Y) 12 := by
  unfold subT
  rw [h.right, g.right]
  show canR (n * bd - bn * d) (d * bd) = _
  refine can_congr (Int.mul_pos h.pos g.pos) (by decide) ?_
  have e1 : n * bd * 12 = X * (d * bd) := by rw [rem_swap, h.eq, Int.mul_assoc]
  have e2 : bn * d * 12 = Y * (d * bd) := by rw [rem_swap, g.eq, Int.mul_assoc, Int.mul_comm bd d]
  rw [Int.sub_mul, Int.sub_mul, e1, e2]
/-- A delay in twelfths. -/
def dl (n d : Int) : Int := 12 * n / d
theorem dl_eq {n d : Int} (d0 : 0 < d) (d4 : d ≤ 4) : n * 12 = dl n d * d := by
  unfold dl
  rcases (show d = 1 ∨ d = 2 ∨ d = 3 ∨ d = 4 by omega) with rfl | rfl | rfl | rfl <;> omega
theorem dl_bd {n d : Int} (d0 : 0 < d) (d4 : d ≤ 4) (n0 : 0 ≤ n) (n1 : n ≤ 100) : 0 ≤ dl n d ∧ dl n d ≤ 1200 := by
  unfold dl
  rcases (show d = 1 ∨ d = 2 ∨ d = 3 ∨ d = 4 by omega) with rfl | rfl | rfl | rfl <;> omega
/-- Does a fraction keep a bound, as the law asks it? -/
def keepT (b n d : Int) : Bool := if b = 2147483647 then true else decide (cmpV n d (b / 2) 1 < 0) || (decide (cmpV n d (b / 2) 1 = 0) && decide (b % 2 = 1))
theorem cmp_fr {X n d v : Int} (h : Fr X n d) : (cmpV n d v 1 < 0 ↔ X < 12 * v) ∧ (cmpV n d v 1 = 0 ↔ X = 12 * v) := by
  have p := h.pos
  have lt : n < v * d ↔ X < 12 * v := by
    constructor
    · intro q
      have : X * d < 12 * v * d := by rw [← h.eq, Int.mul_assoc 12]; omega
      exact Int.lt_of_mul_lt_mul_right this (by omega)
    · intro q
      have := Int.mul_lt_mul_of_pos_right q p
      rw [← h.eq, Int.mul_assoc 12] at this
      omega
  have gt : v * d < n ↔ 12 * v < X := by
    constructor
    · intro q
      have : 12 * v * d < X * d := by rw [← h.eq, Int.mul_assoc 12]; omega
      exact Int.lt_of_mul_lt_mul_right this (by omega)
    · intro q
      have := Int.mul_lt_mul_of_pos_right q p
      rw [← h.eq, Int.mul_assoc 12] at this
      omega
  unfold cmpV
  rw [Int.mul_one]
  split
  · omega
  · split <;> omega
theorem keepT_iff {b X n d : Int} (h : Fr X n d) : keepT b n d = true ↔ b = 2147483647 ∨ X < 12 * (b / 2) ∨ (X = 12 * (b / 2) ∧ b % 2 = 1) := by
  obtain ⟨c1, c2⟩ := cmp_fr (v := b / 2) h
  unfold keepT
  split
  · rename_i e; simp [e]
  · rename_i e
    simp [e, c1, c2]
theorem keepT_holds {b X n d : Int} (h : Fr X n d) (hb : -100 ≤ b ∧ b ≤ 100) (k : keepT b n d = true) : holdsW b X 12 := by
  rw [keepT_iff h] at k
  unfold holdsW
  omega
theorem keepT_cell {p X n d : Int} (h : Fr X n d) (ok : narOk p = true) (k : holdsW p X 12) : keepT (narB p) n d = true := by
  rw [keepT_iff h]
  rcases narOk_cases ok with ⟨h1, h2⟩ | ⟨h1, h2, h3, h4⟩
  · exact .inl h2
  · rw [h2]
    unfold holdsW at k
    omega
/-! ### The law's own functions -/
theorem which_any (n a : Int) (w : World) (h : I64 n) (a1 : 1 ≤ a) (a2 : a ≤ 1000) : Calls Try.prog 4 #[.int .i64 n, .int .i64 a] w fun e w' => (e = .returned (.int .i64 (n % a))) ∧ w' = w := by
  obtain ⟨h0, h1⟩ := h
  have t0 : -a < n.tmod a := Int.lt_tmod_of_pos n (by omega)
  have t1 : n.tmod a < a := Int.tmod_lt_of_pos n (by omega)
  have t2 : (n.tmod a < 0 → n.tmod a + a = n % a) ∧ (¬ n.tmod a < 0 → n.tmod a = n % a) := by
    by_cases d : n.tmod a < 0
    · refine ⟨fun _ => ?_, fun q => absurd d q⟩
      have e := Int.emod_emod_of_dvd n (Int.dvd_refl a)
      have m1 := Int.mul_tdiv_add_tmod n a
      have : n % a = (n.tmod a + a) % a := by
        conv => lhs; rw [← m1]
        rw [Int.add_comm (a * _), Int.add_mul_emod_self_left, Int.add_emod_right]
      rw [this, Int.emod_eq_of_lt (by omega) (by omega)]
    · refine ⟨fun q => absurd q d, fun _ => ?_⟩
      have m1 := Int.mul_tdiv_add_tmod n a
      have : n % a = (n.tmod a) % a := by
        conv => lhs; rw [← m1]
        rw [Int.add_comm (a * _), Int.add_mul_emod_self_left]
      rw [this, Int.emod_eq_of_lt (by omega) (by omega)]
  have a0 : ¬ a = 0 := by omega
  have a3 : ¬ a = -1 := by omega
  generalize hm : n % a = m at *
  generalize ht : n.tmod a = t at *
  by_cases c : t < 0
  · have ew : IntKind.i64.wrap (t + a) = m := by rw [IntKind.wrap_i64]; have := t2.1 c; omega
    have ew2 : wrap64 (t + a) = m := by unfold wrap64; have := t2.1 c; omega
    clear t2
    go_enter Try.func4, Try.ntmps4
    go_wp2
    go_ret
    exact ⟨by first | rfl | (congr 1; simp [*]), rfl⟩
  · have e := t2.2 c
    subst e
    clear t2
    go_enter Try.func4, Try.ntmps4
    go_wp2
    go_ret
    exact ⟨by first | rfl | (congr 1; simp [*]), rfl⟩
end Go.Proofs.Ytjanibholjimkaa
