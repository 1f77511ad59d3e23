/-
  What is closed holds of just the same valuations; what is closed is closed again.
-/
import Derived.Test.YtjanibholjimkaaQ12
namespace Go.Proofs.Ytjanibholjimkaa
open Go.RowKit
set_option linter.unusedVariables false
set_option maxRecDepth 100000
def Kb : Nat → Int
  | 0 => 1073741824
  | c + 1 => 2 * Kb c + 1
theorem Kb_bd : ∀ c, c < 10 → 0 ≤ Kb c ∧ Kb c ≤ 144115188075855872 := by decide
/-- Does a difference x, in parts of which g are 1, keep a wide bound? -/
def holdsW (b x g : Int) : Prop := b = opn ∨ (b % 2 = 1 ∧ 2 * x ≤ (b - 1) * g) ∨ (b % 2 = 0 ∧ 2 * x < b * g)
theorem holdsW_pl {a b x y g : Int} (h1 : holdsW a x g) (h2 : holdsW b y g) : holdsW (pl a b) (x + y) g := by
  have h3 := pl_cases a b
  unfold holdsW at *
  have ea : (a - 1) * g = a * g - g := by rw [Int.sub_mul, Int.one_mul]
  have eb : (b - 1) * g = b * g - g := by rw [Int.sub_mul, Int.one_mul]
  rcases h3 with ⟨_, e⟩ | ⟨n1, n2, ⟨e, q⟩ | ⟨e, q1, q2⟩⟩
  · exact .inl e
  · rw [e]
    have e1 : (a + b - 1 - 1) * g = a * g + b * g - g - g := by rw [Int.sub_mul, Int.sub_mul, Int.add_mul, Int.one_mul]
    have e2 : (a + b - 1) * g = a * g + b * g - g := by rw [Int.sub_mul, Int.add_mul, Int.one_mul]
    rw [e1, e2]
    rw [ea] at h1
    rw [eb] at h2
    generalize a * g = A at *
    generalize b * g = B at *
    omega
  · rw [e]
    have e2 : (a + b) * g = a * g + b * g := by rw [Int.add_mul]
    rw [e2]
    rw [ea] at h1
    rw [eb] at h2
    generalize a * g = A at *
    generalize b * g = B at *
    omega
theorem holdsW_mono {a b x g : Int} (hg : 1 ≤ g) (hb : F b) (h : a ≤ b) (h1 : holdsW a x g) : holdsW b x g := by
  by_cases e : b = opn
  · exact .inl e
  · unfold holdsW at *
    have ho := opn_val
    have na : ¬ a = opn := by unfold F Fin' at hb; omega
    have ea : (a - 1) * g = a * g - g := by rw [Int.sub_mul, Int.one_mul]
    have eb : (b - 1) * g = b * g - g := by rw [Int.sub_mul, Int.one_mul]
    rw [ea] at h1
    rw [eb]
    have m1 : a * g ≤ b * g := Int.mul_le_mul_of_nonneg_right h (by omega)
    by_cases q : a = b
    · subst q; exact h1
    · have m2 : (a + 1) * g ≤ b * g := Int.mul_le_mul_of_nonneg_right (by omega) (by omega)
      rw [Int.add_mul, Int.one_mul] at m2
      generalize a * g = A at *
      generalize b * g = B at *
      omega
theorem holdsW_zero {b g : Int} (hg : 1 ≤ g) (h : holdsW b 0 g) : 1 ≤ b := by
  unfold holdsW at h
  have ho := opn_val
  rcases h with h | ⟨h1, h2⟩ | ⟨h1, h2⟩
  · omega
  · apply Classical.byContradiction
    intro q
    have : (b - 1) * g ≤ (-2) * g := Int.mul_le_mul_of_nonneg_right (by omega) (by omega)
    omega
  · apply Classical.byContradiction
    intro q
    have : b * g ≤ 0 * g := Int.mul_le_mul_of_nonneg_right (by omega) (by omega)
    omega
def keepsM (n : Nat) (v : Nat → Int) (g : Int) (r : Mat) : Prop := ∀ i j, i ≤ n → j ≤ n → holdsW (r i j) (v i - v j) g
theorem fin_mono {n : Nat} {K L : Int} {r : Mat} (h : FinM n K r) (hK : K ≤ L) : FinM n L r := fun i j hi hj => (h i j hi hj).mono hK
/-- What the rounds leave. -/
structure Rounds (n c : Nat) (r p : Mat) : Prop where
  fin : FinM n (Kb c) p
  one : One n p
  tri : Tri n c p
  le : ∀ i j, i ≤ n → j ≤ n → p i j ≤ r i j
  out : ∀ i j, ¬ (i ≤ n ∧ j ≤ n) → p i j = r i j
theorem rounds_of {n : Nat} {r : Mat} (hn : n ≤ 8) (hf : FinM n (Kb 0) r) (ho : One n r) (c : Nat) (hc : c ≤ n + 1) : ∀ p, clAll n c r = some p → Rounds n c r p := by
  induction c with
  | zero =>
    intro p e
    have e : r = p := by simpa [clAll] using e
    subst e
    exact ⟨hf, ho, fun k hk => by omega, fun _ _ _ _ => Int.le_refl _, fun _ _ _ => rfl⟩
  | succ c ih =>
    intro p e
    cases eq : clAll n c r with
    | none => simp [clAll, eq] at e
    | some q =>
      have R := ih (by omega) q eq
      have e : cbAll c n (n + 1) q = some p := by simpa [clAll, eq] using e
      have bd := Kb_bd c (by omega)
      have hs := still_of (k := c) (by omega) R.fin R.one (by omega)
      have op : One n p := by
        rcases all_both R.one c (n + 1) (Nat.le_refl _) with ⟨e2, o2⟩ | ⟨e2, _⟩
        · rw [e] at e2
          cases e2
          exact o2
        · rw [e] at e2
          cases e2
      rcases all_mid hs R.one (by omega) (n + 1) (Nat.le_refl _) with e2 | ⟨e2, _⟩
      · rw [e, mid_all] at e2
        have e2 : p = tgt n c q := by simpa using e2
        have ge : ∀ i, i ≤ n → 1 ≤ pl (q i c) (q c i) := fun i hi => by
          have := op i hi
          rw [e2] at this
          unfold tgt at this
          rw [if_pos ⟨hi, hi⟩, dplus_pl (R.fin i c hi (by omega)) (R.fin c i (by omega) hi) (by omega)] at this
          omega
        refine ⟨?_, op, ?_, fun i j hi hj => ?_, fun i j h => ?_⟩
        · rw [e2]
          exact fin_tgt (by omega) bd.1 R.fin (by omega)
        · rw [e2]
          exact tri_step (fin_mono R.fin bd.2) R.one (by omega) ge R.tri
        · have := R.le i j hi hj
          rw [e2]
          unfold tgt
          rw [if_pos ⟨hi, hj⟩]
          omega
        · rw [e2]
          unfold tgt
          rw [if_neg h]
          exact R.out i j h
      · rw [e] at e2
        cases e2
theorem close_rounds {n : Nat} {r p : Mat} (hn : n ≤ 8) (hf : FinM n (Kb 0) r) (hd : ∀ i, i ≤ n → r i i ≤ 1) (e : closeR n r = some p) : Rounds n (n + 1) r p := by
  unfold closeR at e
  cases d : diagOk n r (n + 1)
  · rw [d] at e
    cases e
  · rw [d] at e
    have ho : One n r := fun i hi => by
      have := (diagOk_iff _ _ _).1 d i (by omega)
      have := hd i hi
      omega
    exact rounds_of hn hf ho (n + 1) (Nat.le_refl _) p e
end Go.Proofs.Ytjanibholjimkaa
