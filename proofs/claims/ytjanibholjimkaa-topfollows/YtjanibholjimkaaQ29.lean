/-
  Valuations of closed matrices: a clock is found where the others are; where nothing happens for long, time can be stretched; so no bound grows but by so much a step.
-/
import Derived.Test.YtjanibholjimkaaQ26
import Derived.Test.YtjanibholjimkaaQ28
namespace Go.Proofs.Ytjanibholjimkaa
open Go.RowKit
set_option linter.unusedVariables false
set_option maxRecDepth 100000
theorem hW_gW {b x g : Int} (hb : ¬ b = opn) : holdsW b x g ↔ x ≤ gW b g := by
  unfold holdsW gW
  have h2 := Int.emod_two_eq b
  obtain ⟨y, hy⟩ : ∃ y, y = b / 2 := ⟨_, rfl⟩
  rcases h2 with h | h
  · rw [if_neg (by omega)]
    have e : b * g = 2 * (y * g) := by rw [show b = 2 * y by omega, Int.mul_assoc]
    rw [e, ← hy]
    constructor
    · rintro (h' | h' | h') <;> omega
    · intro h'; right; right; omega
  · rw [if_pos h]
    have e : (b - 1) * g = 2 * (y * g) := by rw [show b - 1 = 2 * y by omega, Int.mul_assoc]
    rw [e, ← hy]
    constructor
    · rintro (h' | h' | h') <;> omega
    · intro h'; right; left; omega
theorem hW_anti {b x y g : Int} (h : holdsW b x g) (hy : y ≤ x) : holdsW b y g := by
  unfold holdsW at *
  generalize (b - 1) * g = u at *
  generalize b * g = v at *
  omega
theorem hW_scale {b x g K : Int} (hK : 1 ≤ K) (h : holdsW b x g) : holdsW b (K * x) (K * g) := by
  unfold holdsW at *
  rcases h with h | ⟨o, h⟩ | ⟨o, h⟩
  · exact .inl h
  · have := Int.mul_le_mul_of_nonneg_left h (show 0 ≤ K by omega)
    rw [← Int.mul_assoc, Int.mul_comm K 2, Int.mul_assoc, ← Int.mul_assoc K, Int.mul_comm K (b - 1), Int.mul_assoc] at this
    exact .inr (.inl ⟨o, this⟩)
  · have := Int.mul_lt_mul_of_pos_left h (show 0 < K by omega)
    rw [← Int.mul_assoc, Int.mul_comm K 2, Int.mul_assoc, ← Int.mul_assoc K, Int.mul_comm K b, Int.mul_assoc] at this
    exact .inr (.inr ⟨o, this⟩)
theorem keeps_scale {n : Nat} {V : Nat → Int} {D K : Int} {p : Mat} (hK : 1 ≤ K) (h : keepsM n V D p) : keepsM n (fun i => K * V i) (K * D) p := fun i j hi hj => by
  have := hW_scale hK (h i j hi hj)
  rwa [Int.mul_sub] at this
theorem keeps_diff {n : Nat} {V V' : Nat → Int} {D : Int} {p : Mat} (h : keepsM n V D p) (e : ∀ i j, i ≤ n → j ≤ n → V' i - V' j ≤ V i - V j) : keepsM n V' D p := fun i j hi hj => hW_anti (h i j hi hj) (e i j hi hj)
theorem gW_le1 {b g : Int} (hg : 1 ≤ g) (h : b ≤ 1) : gW b g ≤ 0 := by
  unfold gW
  have : b / 2 * g ≤ 0 * g := Int.mul_le_mul_of_nonneg_right (by omega) (by omega)
  split <;> omega
theorem gW_two (b D : Int) : b / 2 * (2 * D) = 2 * (b / 2 * D) := by rw [← Int.mul_assoc, Int.mul_comm (b / 2) 2, Int.mul_assoc]
/-- By way of a third clock. -/
theorem compat {n x i j : Nat} {p : Mat} {V : Nat → Int} {D : Int} (hD : 1 ≤ D) (h : Cl n p) (hi : i ≤ n) (hj : j ≤ n) (hx : x ≤ n) (hk : holdsW (p i j) (V i - V j) D) (f1 : ¬ p i x = opn) (f2 : ¬ p x j = opn) : 2 * V i - gW (p i x) (2 * D) ≤ 2 * V j + gW (p x j) (2 * D) := by
  have t := h.t hi hj hx
  have F1 := h.F hi hx
  have F2 := h.F hx hj
  have ne : ¬ pl (p i x) (p x j) = opn := by
    have := pl_cases (p i x) (p x j)
    have ho := opn_val
    unfold F Fin' at F1 F2
    omega
  have Fp : F (pl (p i x) (p x j)) := by
    have a := h.fin i x hi hx
    have b := h.fin x j hx hj
    exact (pl_fin' a b (by decide) (by decide)).mono (by decide)
  have k := (hW_gW ne).1 (holdsW_mono hD Fp t hk)
  obtain ⟨n1, n2⟩ := pl_num f1 f2 ne
  unfold gW at k ⊢
  rw [n1, Int.add_mul] at k
  rw [gW_two, gW_two]
  generalize p i x / 2 * D = u at *
  generalize p x j / 2 * D = v at *
  by_cases o : pl (p i x) (p x j) % 2 = 1
  · have := n2.1 o
    rw [if_pos o] at k
    rw [if_pos this.1, if_pos this.2]
    omega
  · rw [if_neg o] at k
    split <;> split <;> omega
theorem top_of : ∀ (A : List Int), ¬ A = [] → ∃ u, u ∈ A ∧ ∀ a ∈ A, a ≤ u
  | [], h => absurd rfl h
  | [a], _ => ⟨a, by simp, by simp⟩
  | a :: b :: l, _ => by
    obtain ⟨u, h1, h2⟩ := top_of (b :: l) (by simp)
    by_cases c : a ≤ u
    · exact ⟨u, by simp only [List.mem_cons] at *; exact .inr h1, fun x hx => by
        rcases List.mem_cons.1 hx with rfl | hx
        · exact c
        · exact h2 x hx⟩
    · exact ⟨a, by simp, fun x hx => by
        rcases List.mem_cons.1 hx with rfl | hx
        · omega
        · have := h2 x hx; omega⟩
/-- A clock's place is found where the others keep their bounds. -/
theorem found {n x : Nat} {p : Mat} {V : Nat → Int} {D : Int} (hD : 1 ≤ D) (h : Cl n p) (hx : x ≤ n) (hk : ∀ i j, i ≤ n → j ≤ n → ¬ i = x → ¬ j = x → holdsW (p i j) (V i - V j) D) (hz : ∀ j, j ≤ n → ¬ j = x → ¬ p x j = opn → 0 ≤ 2 * V j + gW (p x j) (2 * D)) :
    ∃ u, 0 ≤ u ∧ keepsM n (fun i => if i = x then u else 2 * V i) (2 * D) p := by
  obtain ⟨u, h1, h2⟩ := top_of (0 :: ((List.range (n + 1)).filter fun i => decide (¬ i = x ∧ ¬ p i x = opn)).map fun i => 2 * V i - gW (p i x) (2 * D)) (by simp)
  have lo : ∀ i, i ≤ n → ¬ i = x → ¬ p i x = opn → 2 * V i - gW (p i x) (2 * D) ≤ u := fun i hi i0 f => h2 _ (List.mem_cons_of_mem _ (List.mem_map.2 ⟨i, List.mem_filter.2 ⟨List.mem_range.2 (by omega), by simpa using ⟨i0, f⟩⟩, rfl⟩))
  have hi' : ∀ j, j ≤ n → ¬ j = x → ¬ p x j = opn → u ≤ 2 * V j + gW (p x j) (2 * D) := fun j hj j0 f => by
    rcases List.mem_cons.1 h1 with e | e
    · rw [e]; exact hz j hj j0 f
    · obtain ⟨i, e1, e2⟩ := List.mem_map.1 e
      obtain ⟨e3, e4⟩ := List.mem_filter.1 e1
      have e5 : ¬ i = x ∧ ¬ p i x = opn := by simpa using e4
      have hi : i ≤ n := by have := List.mem_range.1 e3; omega
      rw [← e2]
      exact compat hD h hi hj hx (hk i j hi hj e5.1 j0) e5.2 f
  refine ⟨u, h2 0 (by simp), fun i j hi hj => ?_⟩
  show holdsW (p i j) ((if i = x then u else 2 * V i) - if j = x then u else 2 * V j) (2 * D)
  by_cases ei : i = x
  · rw [if_pos ei]
    by_cases ej : j = x
    · rw [if_pos ej, ei, ej, h.one x hx]
      exact .inr (.inl ⟨by decide, by omega⟩)
    · rw [if_neg ej, ei]
      by_cases f : p x j = opn
      · exact .inl f
      · rw [hW_gW f]; have := hi' j hj ej f; omega
  · rw [if_neg ei]
    by_cases ej : j = x
    · rw [if_pos ej, ej]
      by_cases f : p i x = opn
      · exact .inl f
      · rw [hW_gW f]; have := lo i hi ei f; omega
    · rw [if_neg ej]
      have := hW_scale (show (1 : Int) ≤ 2 by decide) (hk i j hi hj ei ej)
      rwa [Int.mul_sub] at this
theorem none_below {n : Nat} {p : Mat} {W : Nat → Int} {D : Int} (hD : 1 ≤ D) (low : ∀ j, j ≤ n → p 0 j ≤ 1) (w0 : W 0 = 0) (h : keepsM n W D p) (i : Nat) (hi : i ≤ n) : 0 ≤ W i := by
  have k := holdsW_mono hD F1 (low i hi) (h 0 i (by omega) hi)
  rw [w0] at k
  unfold holdsW at k
  have ho := opn_val
  omega
/-! ### Time that can be stretched -/
/-- Behind each pause, that no point and none of so many others is in, time can be stretched. -/
def Gd (n : Nat) (p : Mat) (T : Nat) (E : Int) (U : Nat → Int) : Prop := ∃ L : List Int, L.length ≤ T ∧ (∀ x ∈ L, 0 ≤ x) ∧ ∀ s, 60 * E ≤ s → (∀ x ∈ L, x ≤ s - 60 * E ∨ s ≤ x) → (∀ i, i ≤ n → U i ≤ s - 60 * E ∨ s ≤ U i) → ∀ t, 0 ≤ t → keepsM n (fun i => if s ≤ U i then U i + t else U i) E p
def Hs (n : Nat) (p : Mat) (T : Nat) : Prop := ∀ D, 1 ≤ D → ∀ V : Nat → Int, V 0 = 0 → keepsM n V D p → ∃ K, 1 ≤ K ∧ Gd n p T (K * D) (fun i => K * V i)
theorem up_keeps {n : Nat} {p : Mat} {W V : Nat → Int} {E d : Int} (hk : keepsM n W E p) (d0 : 0 ≤ d) (w0 : W 0 = 0) (v0 : V 0 = 0) (hv : ∀ i, 1 ≤ i → i ≤ n → V i = W i + d) : keepsM n V E (upP p) := fun i j hi hj => by
  unfold upP
  split
  · exact .inl rfl
  · rename_i c
    refine hW_anti (hk i j hi hj) ?_
    by_cases i0 : i = 0
    · subst i0
      by_cases j0 : j = 0
      · subst j0; omega
      · have := hv j (by omega) hj; omega
    · by_cases j0 : j = 0
      · omega
      · have := hv i (by omega) hi
        have := hv j (by omega) hj
        omega
theorem Hs.up {n T : Nat} {p : Mat} (h : Cl n p) (low : ∀ j, j ≤ n → p 0 j ≤ 1) (H : Hs n p T) : Hs n (upP p) T := fun D hD V v0 hk => by
  obtain ⟨u, u0, hu⟩ := found (x := 0) hD h (by omega) (V := V) (fun i j hi hj i0 j0 => by
    have := hk i j hi hj
    unfold upP at this
    rwa [if_neg (by omega)] at this) (fun j hj j0 f => by
    have := hk 0 j (by omega) hj
    unfold upP at this
    rw [if_neg (by omega), v0] at this
    have := (hW_gW f).1 (hW_scale (show (1 : Int) ≤ 2 by decide) this)
    omega)
  have hW : keepsM n (fun i => if i = 0 then 0 else 2 * V i - u) (2 * D) p := keeps_diff hu fun i j hi hj => by
    show (if i = 0 then 0 else 2 * V i - u) - (if j = 0 then 0 else 2 * V j - u) ≤ (if i = 0 then u else 2 * V i) - (if j = 0 then u else 2 * V j)
    split <;> split <;> omega
  have w0 := none_below (W := fun i => if i = 0 then 0 else 2 * V i - u) (show 1 ≤ 2 * D by omega) low rfl hW
  obtain ⟨K, K1, L, l1, l2, l3⟩ := H (2 * D) (by omega) (fun i => if i = 0 then 0 else 2 * V i - u) rfl hW
  have eE : K * (2 * D) = 2 * K * D := by rw [← Int.mul_assoc, Int.mul_comm K 2]
  have hE : 1 ≤ 2 * K * D := by rw [← eE]; have := Int.mul_le_mul K1 (show 1 ≤ 2 * D by omega) (by decide) (by omega); omega
  have hS := keeps_scale K1 hW
  rw [eE] at l3 hS
  have kv : ∀ i, 1 ≤ i → K * (if i = 0 then 0 else 2 * V i - u) = 2 * K * V i - K * u := fun i hi => by
    rw [if_neg (by omega), Int.mul_sub, ← Int.mul_assoc, Int.mul_comm K 2]
  have Ku : 0 ≤ K * u := Int.mul_nonneg (by omega) u0
  refine ⟨2 * K, by omega, L.map (· + K * u), by simpa using l1, fun x hx => ?_, fun s hs c1 c2 t ht => ?_⟩
  · obtain ⟨y, hy, rfl⟩ := List.mem_map.1 hx
    have := l2 y hy
    show 0 ≤ y + K * u
    omega
  · have n0 : ¬ s ≤ 2 * K * V 0 := by rw [v0, Int.mul_zero]; omega
    by_cases hA : (∃ i, 1 ≤ i ∧ i ≤ n ∧ 2 * K * V i ≤ s - 60 * (2 * K * D)) ∨ ∃ y ∈ L, y + K * u ≤ s - 60 * (2 * K * D)
    · have s' : 60 * (2 * K * D) ≤ s - K * u := by
        rcases hA with ⟨i, i1, hi, hA⟩ | ⟨y, hy, hA⟩
        · have a := w0 i hi
          have b : 0 ≤ K * (if i = 0 then 0 else 2 * V i - u) := Int.mul_nonneg (by omega) a
          rw [kv i i1] at b
          omega
        · have := l2 y hy; omega
      have key := l3 (s - K * u) s' (fun y hy => by
        have := c1 (y + K * u) (List.mem_map.2 ⟨y, hy, rfl⟩)
        omega) (fun i hi => by
        by_cases i0 : i = 0
        · subst i0
          left
          show K * (if (0 : Nat) = 0 then 0 else 2 * V 0 - u) ≤ _
          rw [if_pos rfl, Int.mul_zero]
          omega
        · have a := c2 i hi
          have a' : 2 * K * V i ≤ s - 60 * (2 * K * D) ∨ s ≤ 2 * K * V i := a
          show K * (if i = 0 then 0 else 2 * V i - u) ≤ _ ∨ _ ≤ K * (if i = 0 then 0 else 2 * V i - u)
          rw [kv i (by omega)]
          omega) t ht
      refine up_keeps key Ku ?_ (by show (if s ≤ 2 * K * V 0 then 2 * K * V 0 + t else 2 * K * V 0) = 0; rw [if_neg n0, v0, Int.mul_zero]) fun i i1 hi => ?_
      · show (if _ ≤ K * (if (0 : Nat) = 0 then 0 else 2 * V 0 - u) then _ else K * (if (0 : Nat) = 0 then 0 else 2 * V 0 - u)) = _
        rw [if_pos rfl, Int.mul_zero, if_neg (by omega)]
      · show (if s ≤ 2 * K * V i then 2 * K * V i + t else 2 * K * V i) = (if s - K * u ≤ K * (if i = 0 then 0 else 2 * V i - u) then K * (if i = 0 then 0 else 2 * V i - u) + t else K * (if i = 0 then 0 else 2 * V i - u)) + K * u
        rw [kv i i1]
        split <;> split <;> omega
    · refine up_keeps (d := K * u + t) hS (by omega) (by show K * (if (0 : Nat) = 0 then 0 else 2 * V 0 - u) = _; rw [if_pos rfl, Int.mul_zero]) (by show (if s ≤ 2 * K * V 0 then 2 * K * V 0 + t else 2 * K * V 0) = 0; rw [if_neg n0, v0, Int.mul_zero]) fun i i1 hi => ?_
      show (if s ≤ 2 * K * V i then 2 * K * V i + t else 2 * K * V i) = K * (if i = 0 then 0 else 2 * V i - u) + (K * u + t)
      rw [kv i i1]
      have a : 2 * K * V i ≤ s - 60 * (2 * K * D) ∨ s ≤ 2 * K * V i := c2 i hi
      have b : ¬ 2 * K * V i ≤ s - 60 * (2 * K * D) := fun e => hA (.inl ⟨i, i1, hi, e⟩)
      rw [if_pos (by omega)]
      omega
end Go.Proofs.Ytjanibholjimkaa
