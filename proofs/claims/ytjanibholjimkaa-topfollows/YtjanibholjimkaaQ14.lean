/-
  Valuations on the grid of n + 1: raised till all bounds of a closed form are kept, each clock as little as can be; behind as many rounds as there are clocks, and two, all are kept.
-/
import Derived.Test.YtjanibholjimkaaQ13
namespace Go.Proofs.Ytjanibholjimkaa
open Go.RowKit
set_option linter.unusedVariables false
set_option maxRecDepth 100000
/-- What a bound asks for, in units of the grid. -/
def gW (b g : Int) : Int := b / 2 * g - (if b % 2 = 1 then 0 else 1)
/-- A closed form of n clocks that is not empty. -/
structure Closed (n : Nat) (p : Mat) : Prop where
  fin : FinM n 144115188075855872 p
  one : One n p
  tri : Tri n (n + 1) p
  low : ∀ j, j ≤ n → p 0 j ≤ 1
/-- The least that a clock may be. -/
def lowL (p : Mat) (j : Nat) : Int := -(p 0 j / 2)
theorem pl_num {a b : Int} (h : ¬ a = opn) (h' : ¬ b = opn) : ¬ pl a b = opn → pl a b / 2 = a / 2 + b / 2 ∧ (pl a b % 2 = 1 ↔ a % 2 = 1 ∧ b % 2 = 1) := by
  intro _
  have := pl_cases a b
  omega
theorem low_fin {n : Nat} {p : Mat} (h : Closed n p) (j : Nat) (hj : j ≤ n) : ¬ p 0 j = opn := by
  have := h.low j hj
  have ho := opn_val
  omega
theorem low_nonneg {n : Nat} {p : Mat} (h : Closed n p) (j : Nat) (hj : j ≤ n) : 0 ≤ lowL p j := by
  have := h.low j hj
  unfold lowL
  omega
/-- A way by a third clock. -/
theorem via {n : Nat} {p : Mat} (h : Closed n p) (i k j : Nat) (hi : i ≤ n) (hk : k ≤ n) (hj : j ≤ n) (f1 : ¬ p i k = opn) (f2 : ¬ p k j = opn) :
    ¬ p i j = opn ∧ p i j / 2 ≤ p i k / 2 + p k j / 2 ∧ (p i j / 2 = p i k / 2 + p k j / 2 → p i j % 2 = 1 → p i k % 2 = 1 ∧ p k j % 2 = 1) := by
  have t := h.tri k (by omega) i j hi hj
  have c := pl_cases (p i k) (p k j)
  have ho := opn_val
  have a := h.fin i k hi hk
  have b := h.fin k j hk hj
  have d := h.fin i j hi hj
  unfold Fin' at a b d
  omega
theorem low_le {n : Nat} {p : Mat} (h : Closed n p) (i j : Nat) (hi : i ≤ n) (hj : j ≤ n) (f : ¬ p i j = opn) : lowL p i - p i j / 2 ≤ lowL p j := by
  have := via h 0 i j (by omega) hi hj (low_fin h i hi) f
  unfold lowL
  omega
def tight (p : Mat) (i j : Nat) : Prop := ¬ p i j = opn ∧ lowL p j = lowL p i - p i j / 2
def sB (p : Mat) (i j : Nat) : Bool := !decide (p i j = opn) && decide (p i j % 2 = 0) && decide (lowL p j = lowL p i - p i j / 2)
theorem sB_iff (p : Mat) (i j : Nat) : sB p i j = true ↔ tight p i j ∧ p i j % 2 = 0 := by
  unfold sB tight
  simp
  constructor
  · rintro ⟨⟨a, b⟩, c⟩; exact ⟨⟨a, c⟩, b⟩
  · rintro ⟨⟨a, c⟩, b⟩; exact ⟨⟨a, b⟩, c⟩
theorem tight_trans {n : Nat} {p : Mat} (h : Closed n p) {i k j : Nat} (hi : i ≤ n) (hk : k ≤ n) (hj : j ≤ n) (t1 : tight p i k) (t2 : tight p k j) : tight p i j ∧ (p i k % 2 = 0 ∨ p k j % 2 = 0 → p i j % 2 = 0) := by
  obtain ⟨f1, e1⟩ := t1
  obtain ⟨f2, e2⟩ := t2
  have v := via h i k j hi hk hj f1 f2
  have l := low_le h i j hi hj v.1
  refine ⟨⟨v.1, by omega⟩, fun q => ?_⟩
  have e : p i j / 2 = p i k / 2 + p k j / 2 := by omega
  apply Classical.byContradiction
  intro q2
  have := v.2.2 e (by omega)
  omega
theorem sB_self {n : Nat} {p : Mat} (h : Closed n p) (i : Nat) (hi : i ≤ n) : sB p i i = false := by
  cases e : sB p i i
  · rfl
  · have := ((sB_iff p i i).1 e).2
    rw [h.one i hi] at this
    omega
theorem sB_tight {n : Nat} {p : Mat} (h : Closed n p) {x i j : Nat} (hx : x ≤ n) (hi : i ≤ n) (hj : j ≤ n) (s : sB p x i = true) (t : tight p i j) : sB p x j = true := by
  obtain ⟨t1, e1⟩ := (sB_iff p x i).1 s
  have := tight_trans h hx hi hj t1 t
  exact (sB_iff p x j).2 ⟨this.1, this.2 (.inl e1)⟩
/-- There are so many clocks, one strictly ahead of the other, up to this one. -/
def chain (n : Nat) (p : Mat) : Nat → Nat → Prop
  | 0, _ => True
  | k + 1, j => ∃ i, i ≤ n ∧ sB p i j = true ∧ chain n p k i
theorem chain_tight {n : Nat} {p : Mat} (h : Closed n p) {k i j : Nat} (hi : i ≤ n) (hj : j ≤ n) (t : tight p i j) (c : chain n p k i) : chain n p k j := by
  cases k with
  | zero => trivial
  | succ k =>
    obtain ⟨x, hx, s, c⟩ := c
    exact ⟨x, hx, sB_tight h hx hi hj s t, c⟩
theorem countP_lt {f g : Nat → Bool} : ∀ (l : List Nat), (∀ x ∈ l, f x = true → g x = true) → ∀ a, a ∈ l → f a = false → g a = true → l.countP f < l.countP g := by
  intro l
  induction l with
  | nil => intro _ a h; cases h
  | cons x l ih =>
    intro hfg a ha fa ga
    have le : ∀ l : List Nat, (∀ x ∈ l, f x = true → g x = true) → l.countP f ≤ l.countP g := fun l h => List.countP_mono_left h
    rw [List.countP_cons, List.countP_cons]
    rcases List.mem_cons.1 ha with e | ha'
    · subst e
      have := le l (fun y hy => hfg y (List.mem_cons_of_mem _ hy))
      simp [fa, ga]
      omega
    · have i := ih (fun y hy => hfg y (List.mem_cons_of_mem _ hy)) a ha' fa ga
      have := hfg x (List.mem_cons_self ..)
      cases e : f x
      · cases e2 : g x <;> simp <;> omega
      · rw [this e]
        simp
        omega
def cnt (n : Nat) (p : Mat) (j : Nat) : Nat := (List.range (n + 1)).countP fun i => sB p i j
theorem cnt_lt {n : Nat} {p : Mat} (h : Closed n p) {i j : Nat} (hi : i ≤ n) (hj : j ≤ n) (s : sB p i j = true) : cnt n p i < cnt n p j := by
  refine countP_lt _ (fun x hx e => ?_) i (List.mem_range.2 (by omega)) (sB_self h i hi) s
  have := List.mem_range.1 hx
  exact sB_tight h (by omega) hi hj e ((sB_iff p i j).1 s).1
theorem cnt_le {n : Nat} {p : Mat} (h : Closed n p) {j : Nat} (hj : j ≤ n) : cnt n p j ≤ n := by
  have := countP_lt (f := fun i => sB p i j) (g := fun _ => true) (List.range (n + 1)) (fun _ _ _ => rfl) j (List.mem_range.2 (by omega)) (sB_self h j hj) rfl
  unfold cnt
  simp at this
  omega
theorem chain_le {n : Nat} {p : Mat} (h : Closed n p) : ∀ k j, j ≤ n → chain n p k j → k ≤ n := by
  have H : ∀ k j, j ≤ n → chain n p k j → k ≤ cnt n p j := by
    intro k
    induction k with
    | zero => intro j _ _; omega
    | succ k ih =>
      rintro j hj ⟨i, hi, s, c⟩
      have := ih i hi c
      have := cnt_lt h hi hj s
      omega
  intro k j hj c
  have := H k j hj c
  have := cnt_le h hj
  omega
/-! ### The rounds -/
abbrev Val := Nat → Int
def updV (v : Val) (j : Nat) (x : Int) : Val := fun a => if a = j then x else v a
def gStep (p : Mat) (g : Int) (i j : Nat) (v : Val) : Val := if p i j = opn then v else if v j < v i - gW (p i j) g then updV v j (v i - gW (p i j) g) else v
def gRow (p : Mat) (g : Int) (i : Nat) : Nat → Val → Val
  | 0, v => v
  | c + 1, v => gStep p g i c (gRow p g i c v)
def gAll (n : Nat) (p : Mat) (g : Int) : Nat → Val → Val
  | 0, v => v
  | c + 1, v => gRow p g c (n + 1) (gAll n p g c v)
def gRounds (n : Nat) (p : Mat) (g : Int) : Nat → Val → Val
  | 0, v => v
  | c + 1, v => gAll n p g (n + 1) (gRounds n p g c v)
theorem gStep_le (p : Mat) (g : Int) (i j : Nat) (v : Val) (a : Nat) : v a ≤ gStep p g i j v a := by
  unfold gStep
  split
  · exact Int.le_refl _
  · split
    · unfold updV
      split
      · rename_i e
        subst e
        omega
      · exact Int.le_refl _
    · exact Int.le_refl _
theorem gRow_le (p : Mat) (g : Int) (i c : Nat) (v : Val) (a : Nat) : v a ≤ gRow p g i c v a := by
  induction c with
  | zero => exact Int.le_refl _
  | succ c ih => exact Int.le_trans ih (gStep_le p g i c _ a)
theorem gAll_le (n : Nat) (p : Mat) (g : Int) (c : Nat) (v : Val) (a : Nat) : v a ≤ gAll n p g c v a := by
  induction c with
  | zero => exact Int.le_refl _
  | succ c ih => exact Int.le_trans ih (gRow_le p g c _ _ a)
theorem gStep_at (p : Mat) (g : Int) (i j : Nat) (v : Val) (f : ¬ p i j = opn) : v i - gW (p i j) g ≤ gStep p g i j v j := by
  unfold gStep
  rw [if_neg f]
  split
  · unfold updV
    rw [if_pos rfl]
    exact Int.le_refl _
  · omega
theorem gRow_at (p : Mat) (g : Int) (i : Nat) (v : Val) (c : Nat) : ∀ j, j < c → ¬ p i j = opn → v i - gW (p i j) g ≤ gRow p g i c v j := by
  induction c with
  | zero => intro j hj; omega
  | succ c ih =>
    intro j hj f
    by_cases e : j = c
    · subst e
      have a := gStep_at p g i j (gRow p g i j v) f
      have b := gRow_le p g i j v i
      show _ ≤ gStep p g i j (gRow p g i j v) j
      omega
    · exact Int.le_trans (ih j (by omega) f) (gStep_le p g i c _ j)
theorem gAll_at (n : Nat) (p : Mat) (g : Int) (v : Val) (c : Nat) : ∀ i j, i < c → j ≤ n → ¬ p i j = opn → v i - gW (p i j) g ≤ gAll n p g c v j := by
  induction c with
  | zero => intro i j hi; omega
  | succ c ih =>
    intro i j hi hj f
    by_cases e : i = c
    · subst e
      have a := gRow_at p g i (gAll n p g i v) (n + 1) j (by omega) f
      have b := gAll_le n p g i v i
      show _ ≤ gRow p g i (n + 1) (gAll n p g i v) j
      omega
    · exact Int.le_trans (ih i j (by omega) hj f) (gRow_le p g c _ _ j)
/-- Nobody is higher than a chain up to him asks for. -/
def Upper (n : Nat) (p : Mat) (g : Int) (v : Val) : Prop := ∀ j, j ≤ n → ∃ q : Nat, chain n p q j ∧ v j ≤ lowL p j * g + q
theorem upper_step {n : Nat} {p : Mat} {g : Int} (h : Closed n p) (hg : g = n + 1) {i j : Nat} (hi : i ≤ n) (hj : j ≤ n) {v : Val} (u : Upper n p g v) : Upper n p g (gStep p g i j v) := by
  intro a ha
  unfold gStep
  split
  · exact u a ha
  · rename_i f
    split
    · unfold updV
      split
      · rename_i e
        subst e
        obtain ⟨q, c, le⟩ := u i hi
        have ql := chain_le h q i hi c
        have ll := low_le h i a hi ha f
        unfold gW
        by_cases t : lowL p a = lowL p i - p i a / 2
        · have eq : lowL p a * g = lowL p i * g - p i a / 2 * g := by rw [t, Int.sub_mul]
          by_cases o : p i a % 2 = 1
          · exact ⟨q, chain_tight h hi ha ⟨f, t⟩ c, by rw [if_pos o]; omega⟩
          · refine ⟨q + 1, ⟨i, hi, (sB_iff p i a).2 ⟨⟨f, t⟩, by omega⟩, c⟩, ?_⟩
            rw [if_neg o]
            omega
        · refine ⟨0, trivial, ?_⟩
          have m : (lowL p i - p i a / 2 + 1) * g ≤ lowL p a * g := Int.mul_le_mul_of_nonneg_right (by omega) (by omega)
          rw [Int.add_mul, Int.sub_mul, Int.one_mul] at m
          split <;> omega
      · exact u a ha
    · exact u a ha
theorem upper_row {n : Nat} {p : Mat} {g : Int} (h : Closed n p) (hg : g = n + 1) {i : Nat} (hi : i ≤ n) {v : Val} (u : Upper n p g v) (c : Nat) (hc : c ≤ n + 1) : Upper n p g (gRow p g i c v) := by
  induction c with
  | zero => exact u
  | succ c ih => exact upper_step h hg hi (by omega) (ih (by omega))
theorem upper_all {n : Nat} {p : Mat} {g : Int} (h : Closed n p) (hg : g = n + 1) {v : Val} (u : Upper n p g v) (c : Nat) (hc : c ≤ n + 1) : Upper n p g (gAll n p g c v) := by
  induction c with
  | zero => exact u
  | succ c ih => exact upper_row h hg (by omega) (ih (by omega)) (n + 1) (Nat.le_refl _)
theorem upper_rounds {n : Nat} {p : Mat} {g : Int} (h : Closed n p) (hg : g = n + 1) {v : Val} (u : Upper n p g v) (c : Nat) : Upper n p g (gRounds n p g c v) := by
  induction c with
  | zero => exact u
  | succ c ih => exact upper_all h hg ih (n + 1) (Nat.le_refl _)
theorem upper_start {n : Nat} {p : Mat} {g : Int} (h : Closed n p) (hg : g = n + 1) : Upper n p g (fun _ => 0) := fun j hj => by
  refine ⟨0, trivial, ?_⟩
  have := Int.mul_nonneg (low_nonneg h j hj) (show 0 ≤ g by omega)
  show (0 : Int) ≤ _
  omega
def Lower (n : Nat) (p : Mat) (g : Int) (k : Nat) (v : Val) : Prop := ∀ j, j ≤ n → ∀ q : Nat, q ≤ k → chain n p q j → lowL p j * g + q ≤ v j
theorem rounds_nonneg (n : Nat) (p : Mat) (g : Int) (c : Nat) (a : Nat) : 0 ≤ gRounds n p g c (fun _ => 0) a := by
  induction c with
  | zero => exact Int.le_refl _
  | succ c ih => exact Int.le_trans ih (gAll_le n p g _ _ a)
theorem lower_rounds {n : Nat} {p : Mat} {g : Int} (h : Closed n p) (hg : g = n + 1) (c : Nat) : Lower n p g c (gRounds n p g (c + 1) (fun _ => 0)) := by
  have base : ∀ c j, j ≤ n → lowL p j * g ≤ gRounds n p g (c + 1) (fun _ => 0) j := fun c j hj => by
    have a := gAll_at n p g (gRounds n p g c (fun _ => 0)) (n + 1) 0 j (by omega) hj (low_fin h j hj)
    have b := rounds_nonneg n p g c 0
    show _ ≤ gAll n p g (n + 1) (gRounds n p g c (fun _ => 0)) j
    have e : lowL p j * g = -(p 0 j / 2 * g) := by unfold lowL; rw [Int.neg_mul]
    unfold gW at a
    split at a <;> omega
  induction c with
  | zero =>
    intro j hj q hq _
    have := base 0 j hj
    obtain rfl : q = 0 := by omega
    show _ + 0 ≤ _
    omega
  | succ c ih =>
    intro j hj q hq ch
    cases q with
    | zero =>
      have := base (c + 1) j hj
      show _ + 0 ≤ _
      omega
    | succ q =>
      obtain ⟨i, hi, s, ch⟩ := ch
      obtain ⟨⟨f, t⟩, ev⟩ := (sB_iff p i j).1 s
      have a := ih i hi q (by omega) ch
      have b := gAll_at n p g (gRounds n p g (c + 1) (fun _ => 0)) (n + 1) i j (by omega) hj f
      show _ ≤ gAll n p g (n + 1) (gRounds n p g (c + 1) (fun _ => 0)) j
      have eq : lowL p j * g = lowL p i * g - p i j / 2 * g := by rw [t, Int.sub_mul]
      unfold gW at b
      rw [if_neg (by omega)] at b
      push_cast
      omega
/-- Behind n + 2 rounds all bounds are kept. -/
theorem inside_keeps {n : Nat} {p : Mat} {g : Int} (h : Closed n p) (hg : g = n + 1) : keepsM n (gRounds n p g (n + 2) (fun _ => 0)) g p := by
  have up := upper_rounds h hg (upper_start h hg) (n + 2)
  have lo := lower_rounds h hg (n + 1)
  have hlo : Lower n p g (n + 1) (gRounds n p g (n + 2) (fun _ => 0)) := lo
  intro i j hi hj
  by_cases f : p i j = opn
  · exact .inl f
  · obtain ⟨q, c, le⟩ := up i hi
    have ql := chain_le h q i hi c
    have ll := low_le h i j hi hj f
    generalize gRounds n p g (n + 2) (fun _ => 0) = v at *
    have key : v i - v j ≤ gW (p i j) g := by
      unfold gW
      by_cases t : lowL p j = lowL p i - p i j / 2
      · have eq : lowL p j * g = lowL p i * g - p i j / 2 * g := by rw [t, Int.sub_mul]
        by_cases o : p i j % 2 = 1
        · have := hlo j hj q (by omega) (chain_tight h hi hj ⟨f, t⟩ c)
          rw [if_pos o]
          omega
        · have := hlo j hj (q + 1) (by omega) ⟨i, hi, (sB_iff p i j).2 ⟨⟨f, t⟩, by omega⟩, c⟩
          rw [if_neg o]
          push_cast at this
          omega
      · have m : (lowL p i - p i j / 2 + 1) * g ≤ lowL p j * g := Int.mul_le_mul_of_nonneg_right (by omega) (by omega)
        rw [Int.add_mul, Int.sub_mul, Int.one_mul] at m
        have := hlo j hj 0 (by omega) trivial
        split <;> omega
    unfold gW at key
    unfold holdsW
    by_cases o : p i j % 2 = 1
    · refine .inr (.inl ⟨o, ?_⟩)
      rw [if_pos o] at key
      have e : (p i j - 1) * g = 2 * (p i j / 2 * g) := by rw [← Int.mul_assoc, show p i j - 1 = 2 * (p i j / 2) by omega]
      omega
    · refine .inr (.inr ⟨by omega, ?_⟩)
      rw [if_neg o] at key
      have e : p i j * g = 2 * (p i j / 2 * g) := by rw [← Int.mul_assoc, show 2 * (p i j / 2) = p i j by omega]
      omega
end Go.Proofs.Ytjanibholjimkaa
