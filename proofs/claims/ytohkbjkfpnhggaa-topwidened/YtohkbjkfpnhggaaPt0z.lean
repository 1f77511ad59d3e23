/-
  The least valuation on a grid: as many rounds as there are clocks raise all of it.
-/
import Derived.Test.YtohkbjkfpnhggaaHaz
namespace Go.Proofs.Ytohkbjkfpnhggaa
open Go.RowKit
set_option linter.unusedVariables false
--BEGIN
/-- Numbers that keep all bounds, in units. -/
def gSol (n : Nat) (p : Mat) (g : Int) (x : Val) : Prop := ∀ i j, i ≤ n → j ≤ n → ¬ p i j = opn → x i - x j ≤ gW (p i j) g
theorem gStep_below {n : Nat} {p : Mat} {g : Int} {x v : Val} (hx : gSol n p g x) {i j : Nat} (hi : i ≤ n) (hj : j ≤ n) (h : ∀ a, a ≤ n → v a ≤ x a) : ∀ a, a ≤ n → gStep p g i j v a ≤ x a := by
  intro a ha
  unfold gStep
  split
  · exact h a ha
  · rename_i f
    split
    · unfold updV
      split
      · rename_i e
        subst e
        have := hx i a hi ha f
        have := h i hi
        omega
      · exact h a ha
    · exact h a ha
theorem gRow_below {n : Nat} {p : Mat} {g : Int} {x v : Val} (hx : gSol n p g x) {i : Nat} (hi : i ≤ n) (h : ∀ a, a ≤ n → v a ≤ x a) : ∀ c, c ≤ n + 1 → ∀ a, a ≤ n → gRow p g i c v a ≤ x a
  | 0, _ => h
  | c + 1, hc => gStep_below hx hi (by omega) (gRow_below hx hi h c (by omega))
theorem gAll_below {n : Nat} {p : Mat} {g : Int} {x v : Val} (hx : gSol n p g x) (h : ∀ a, a ≤ n → v a ≤ x a) : ∀ c, c ≤ n + 1 → ∀ a, a ≤ n → gAll n p g c v a ≤ x a
  | 0, _ => h
  | c + 1, hc => gRow_below hx (by omega) (gAll_below hx h c (by omega)) (n + 1) (Nat.le_refl _)
theorem gRounds_below {n : Nat} {p : Mat} {g : Int} {x : Val} (hx : gSol n p g x) (h : ∀ a, a ≤ n → 0 ≤ x a) : ∀ c a, a ≤ n → gRounds n p g c (fun _ => 0) a ≤ x a
  | 0 => h
  | c + 1 => gAll_below hx (gRounds_below hx h c) (n + 1) (Nat.le_refl _)
theorem gRounds_mono (n : Nat) (p : Mat) (g : Int) (c a : Nat) : gRounds n p g c (fun _ => 0) a ≤ gRounds n p g (c + 1) (fun _ => 0) a := gAll_le n p g (n + 1) _ a
theorem gRounds_nn (n : Nat) (p : Mat) (g : Int) : ∀ c a, 0 ≤ gRounds n p g c (fun _ => 0) a
  | 0, a => Int.le_refl _
  | c + 1, a => Int.le_trans (gRounds_nn n p g c a) (gRounds_mono n p g c a)
/-- As many rounds as there are clocks lead to the least numbers. -/
theorem rounds_least {n : Nat} {p : Mat} {g : Int} {F : Val} (hF : gSol n p g F) (h0 : ∀ a, a ≤ n → 0 ≤ F a) (hl : ∀ x, gSol n p g x → (∀ a, a ≤ n → 0 ≤ x a) → ∀ a, a ≤ n → F a ≤ x a)
    (hz : ∀ j, j ≤ n → ¬ p 0 j = opn ∧ gW (p 0 j) g ≤ 0) : ∀ a, a ≤ n → gRounds n p g n (fun _ => 0) a = F a := by
  have F0 : F 0 = 0 := by
    have h := hl (fun a => F a - F 0) (fun i j hi hj f => by have := hF i j hi hj f; show F i - F 0 - (F j - F 0) ≤ _; omega) (fun a ha => by
      have := hF 0 a (Nat.zero_le _) ha (hz a ha).1
      have := (hz a ha).2
      show 0 ≤ F a - F 0
      omega) 0 (Nat.zero_le _)
    have := h0 0 (Nat.zero_le _)
    omega
  have le := fun k => gRounds_below hF h0 k
  have key : ∀ k, k ≤ n → k + 1 ≤ (List.range (n + 1)).countP fun j => decide (gRounds n p g k (fun _ => 0) j = F j) := by
    intro k
    induction k with
    | zero =>
      intro _
      have : 0 < (List.range (n + 1)).countP fun j => decide (gRounds n p g 0 (fun _ => 0) j = F j) := List.countP_pos_iff.2 ⟨0, by simp, by simp [gRounds, F0]⟩
      omega
    | succ k ih =>
      intro hk
      have c1 := ih (by omega)
      have mono : ∀ x, x ∈ List.range (n + 1) → decide (gRounds n p g k (fun _ => 0) x = F x) = true → decide (gRounds n p g (k + 1) (fun _ => 0) x = F x) = true := by
        intro x hx h
        have hx' : x ≤ n := by have := List.mem_range.1 hx; omega
        have a := gRounds_mono n p g k x
        have b := le (k + 1) x hx'
        have h' := of_decide_eq_true h
        exact decide_eq_true (by omega)
      by_cases all : ∀ j, j ≤ n → gRounds n p g k (fun _ => 0) j = F j
      · have : (List.range (n + 1)).countP (fun j => decide (gRounds n p g (k + 1) (fun _ => 0) j = F j)) = n + 1 := by
          have e : (List.range (n + 1)).countP (fun j => decide (gRounds n p g (k + 1) (fun _ => 0) j = F j)) = (List.range (n + 1)).length := List.countP_eq_length.2 (fun x hx => mono x hx (decide_eq_true (all x (by have := List.mem_range.1 hx; omega))))
          rw [e, List.length_range]
        omega
      · -- somebody who is not there yet hangs on somebody who is
        have ex : ∃ i j, i ≤ n ∧ j ≤ n ∧ gRounds n p g k (fun _ => 0) i = F i ∧ ¬ gRounds n p g k (fun _ => 0) j = F j ∧ ¬ p i j = opn ∧ F j = F i - gW (p i j) g := by
          by_cases hh : ∃ i j, i ≤ n ∧ j ≤ n ∧ gRounds n p g k (fun _ => 0) i = F i ∧ ¬ gRounds n p g k (fun _ => 0) j = F j ∧ ¬ p i j = opn ∧ F j = F i - gW (p i j) g
          · exact hh
          · exfalso
            have strict : ∀ i j, i ≤ n → j ≤ n → gRounds n p g k (fun _ => 0) i = F i → ¬ gRounds n p g k (fun _ => 0) j = F j → ¬ p i j = opn → F i - F j < gW (p i j) g := by
              intro i j hi hj a b f
              have := hF i j hi hj f
              have ne : ¬ F j = F i - gW (p i j) g := fun e => hh ⟨i, j, hi, hj, a, b, f, e⟩
              omega
            have z0 : gRounds n p g k (fun _ => 0) 0 = F 0 := by
              have a := le k 0 (Nat.zero_le _)
              have b := gRounds_nn n p g k 0
              omega
            have hx := hl (fun a => if gRounds n p g k (fun _ => 0) a = F a then F a else F a - 1) (by
              intro i j hi hj f
              have := hF i j hi hj f
              show (if gRounds n p g k (fun _ => 0) i = F i then F i else F i - 1) - (if gRounds n p g k (fun _ => 0) j = F j then F j else F j - 1) ≤ _
              by_cases a : gRounds n p g k (fun _ => 0) i = F i <;> by_cases b : gRounds n p g k (fun _ => 0) j = F j
              · rw [if_pos a, if_pos b]; omega
              · have := strict i j hi hj a b f
                rw [if_pos a, if_neg b]; omega
              · rw [if_neg a, if_pos b]; omega
              · rw [if_neg a, if_neg b]; omega) (by
              intro a ha
              show 0 ≤ (if gRounds n p g k (fun _ => 0) a = F a then F a else F a - 1)
              by_cases b : gRounds n p g k (fun _ => 0) a = F a
              · rw [if_pos b]; exact h0 a ha
              · have := strict 0 a (Nat.zero_le _) ha z0 b (hz a ha).1
                have := (hz a ha).2
                rw [if_neg b]; omega)
            refine all (fun j hj => ?_)
            by_cases b : gRounds n p g k (fun _ => 0) j = F j
            · exact b
            · exfalso
              have h := hx j hj
              rw [if_neg b] at h
              omega
        obtain ⟨i, j, hi, hj, a, b, f, e⟩ := ex
        have up := gAll_at n p g (gRounds n p g k (fun _ => 0)) (n + 1) i j (by omega) hj f
        have top := le (k + 1) j hj
        have fin : gRounds n p g (k + 1) (fun _ => 0) j = F j := by
          show gAll n p g (n + 1) (gRounds n p g k (fun _ => 0)) j = F j
          have top' : gAll n p g (n + 1) (gRounds n p g k (fun _ => 0)) j ≤ F j := top
          omega
        have := countP_lt (List.range (n + 1)) mono j (List.mem_range.2 (by omega)) (by simpa using b) (decide_eq_true fin)
        omega
  intro a ha
  have c := key n (Nat.le_refl _)
  have e : (List.range (n + 1)).countP (fun j => decide (gRounds n p g n (fun _ => 0) j = F j)) = (List.range (n + 1)).length := by
    have := List.countP_le_length (p := fun j => decide (gRounds n p g n (fun _ => 0) j = F j)) (l := List.range (n + 1))
    rw [List.length_range] at this ⊢
    omega
  exact of_decide_eq_true (List.countP_eq_length.1 e a (List.mem_range.2 (by omega)))
--END
end Go.Proofs.Ytohkbjkfpnhggaa
