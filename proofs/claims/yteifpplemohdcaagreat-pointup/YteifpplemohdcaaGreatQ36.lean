/-
  Spans of delays: which delays are behind all ends and ahead of all ends, in whole parts.
-/
import Derived.Test.YteifpplemohdcaaGreatQ35
namespace Go.Proofs.YteifpplemohdcaaGreat
open Go.RowKit Go.Shelf
set_option linter.unusedVariables false
set_option maxRecDepth 100000
/-! ### All fractions as whole numbers, of one denominator -/
theorem dens (q : Nat) (d : Nat → Int) (x : Int) (hx : 0 < x) (h : ∀ k, k < q → 0 < d k) : ∃ M : Int, 0 < M ∧ x ∣ M ∧ ∀ k, k < q → d k ∣ M := by
  induction q with
  | zero => exact ⟨x, hx, Int.dvd_refl x, fun k hk => absurd hk (by omega)⟩
  | succ q ih =>
    obtain ⟨M, m0, m1, m2⟩ := ih (fun k hk => h k (by omega))
    refine ⟨M * d q, Int.mul_pos m0 (h q (by omega)), Int.dvd_trans m1 (Int.dvd_mul_right _ _), fun k hk => ?_⟩
    by_cases e : k = q
    · subst e; exact Int.dvd_mul_left _ _
    · exact Int.dvd_trans (m2 k (by omega)) (Int.dvd_mul_right _ _)
/-- A fraction a of b as so many parts. -/
def parts (M a b : Int) : Int := a * (M / b)
theorem parts_eq {M a b : Int} (h : b ∣ M) : parts M a b * b = a * M := by
  unfold parts
  rw [Int.mul_assoc, Int.ediv_mul_cancel h]
/-- Which of two is greater, of one denominator. -/
theorem parts_lt {M a b A B X Y : Int} (m : 0 < M) (pb : 0 < b) (pB : 0 < B) (e : X * b = a * M) (E : Y * B = A * M) : (a * B < A * b ↔ X < Y) ∧ (a * B = A * b ↔ X = Y) := by
  have k : 0 < b * B := Int.mul_pos pb pB
  have h1 : a * B * M = X * (b * B) := by rw [Int.mul_assoc, Int.mul_comm B M, ← Int.mul_assoc, ← e, Int.mul_assoc]
  have h2 : A * b * M = Y * (b * B) := by rw [Int.mul_assoc, Int.mul_comm b M, ← Int.mul_assoc, ← E, Int.mul_assoc, Int.mul_comm B b]
  constructor
  · constructor
    · intro h
      have := Int.mul_lt_mul_of_pos_right h m
      rw [h1, h2] at this
      exact Int.lt_of_mul_lt_mul_right this (Int.le_of_lt k)
    · intro h
      have := Int.mul_lt_mul_of_pos_right h k
      rw [← h1, ← h2] at this
      exact Int.lt_of_mul_lt_mul_right this (Int.le_of_lt m)
  · constructor
    · intro h
      rw [h] at h1
      exact Int.eq_of_mul_eq_mul_right (by omega) (h1.symm.trans h2)
    · intro h
      rw [h] at h1
      exact Int.eq_of_mul_eq_mul_right (by omega) (h1.trans h2.symm)
/-- The delay of an end, in parts. -/
def endP (M : Int) (e : End) : Int := e.n * M - parts M e.cn e.cd
structure Fits (M : Int) (e : End) : Prop where
  p : 0 < e.cd
  d : e.cd ∣ M
theorem endP_eq {M : Int} {e : End} (h : Fits M e) : endP M e * e.cd = (e.n * e.cd - e.cn) * M := by
  unfold endP
  rw [Int.sub_mul, parts_eq h.d, Int.sub_mul, Int.mul_assoc, Int.mul_comm M e.cd, ← Int.mul_assoc]
theorem cmpE_parts {M : Int} {e o : End} (m : 0 < M) (he : Fits M e) (ho : Fits M o) : (cmpE e o < 0 ↔ endP M e < endP M o) ∧ (cmpE e o = 0 ↔ endP M e = endP M o) := by
  obtain ⟨g1, g2⟩ := gap_sign o.cn o.cd e.cn e.cd (o.n - e.n) ho.p he.p
  obtain ⟨h1, h2⟩ := parts_lt m he.p ho.p (endP_eq he) (endP_eq ho)
  have x1 : (e.n * e.cd - e.cn) * o.cd = e.n * (o.cd * e.cd) - e.cn * o.cd := by rw [Int.sub_mul, Int.mul_assoc, Int.mul_comm e.cd o.cd]
  have x2 : (o.n * o.cd - o.cn) * e.cd = o.n * (o.cd * e.cd) - o.cn * e.cd := by rw [Int.sub_mul, Int.mul_assoc]
  rw [x1, x2] at h1 h2
  rw [Int.sub_mul] at g1 g2
  unfold cmpE
  generalize gapV o.cn o.cd e.cn e.cd (o.n - e.n) = G at *
  generalize e.n * (o.cd * e.cd) = a at *
  generalize o.n * (o.cd * e.cd) = b at *
  generalize e.cn * o.cd = c at *
  generalize o.cn * e.cd = d at *
  constructor
  · rw [← h1, g1]; omega
  · rw [← h2, g2]; omega
/-- A delay of X parts is behind an end, ahead of one. -/
def Behind (M X : Int) (e : End) : Prop := endP M e < X ∨ (endP M e = X ∧ e.i = true)
def Ahead (M X : Int) (e : End) : Prop := X < endP M e ∨ (X = endP M e ∧ e.i = true)
structure FitS (M : Int) (s : DSt) : Prop where
  lo : Fits M s.lo
  hi : s.fv = false → Fits M s.hi
def AheadS (M X : Int) (s : DSt) : Prop := s.fv = true ∨ Ahead M X s.hi
theorem cmp_tri {M : Int} {e o : End} (m : 0 < M) (he : Fits M e) (ho : Fits M o) : (0 < cmpE e o ↔ endP M o < endP M e) := by
  obtain ⟨h1, h2⟩ := cmpE_parts m he ho
  omega
theorem from_says {M X : Int} {s : DSt} {e : End} (m : 0 < M) (hs : FitS M s) (he : Fits M e) : FitS M (fromS s e) ∧ (Behind M X (fromS s e).lo ↔ Behind M X s.lo ∧ Behind M X e) ∧ (AheadS M X (fromS s e) ↔ AheadS M X s) := by
  have h3 := cmp_tri m he hs.lo
  obtain ⟨h1, h2⟩ := cmpE_parts m he hs.lo
  unfold fromS
  split
  · rename_i h
    refine ⟨⟨he, hs.hi⟩, ?_, Iff.rfl⟩
    show Behind M X e ↔ _
    refine ⟨fun k => ⟨?_, k⟩, fun k => k.2⟩
    unfold Behind at *
    rcases h with h | ⟨h, hi⟩
    · have := h3.1 h
      rcases k with k | ⟨k, _⟩ <;> exact .inl (by omega)
    · have := h2.1 h
      rcases k with k | ⟨_, k⟩
      · exact .inl (by omega)
      · rw [hi] at k; cases k
  · rename_i h
    refine ⟨hs, ?_, Iff.rfl⟩
    refine ⟨fun k => ⟨k, ?_⟩, fun k => k.1⟩
    unfold Behind at *
    by_cases z : cmpE e s.lo = 0
    · have := h2.1 z
      have ei : e.i = true := by
        cases hi : e.i
        · exact absurd (.inr ⟨z, hi⟩) h
        · rfl
      rcases k with k | ⟨k, _⟩
      · exact .inl (by omega)
      · exact .inr ⟨by omega, ei⟩
    · have : cmpE e s.lo < 0 := by
        have : ¬ 0 < cmpE e s.lo := fun x => h (.inl x)
        omega
      have := h1.1 this
      rcases k with k | ⟨k, _⟩ <;> exact .inl (by omega)
theorem up_says {M X : Int} {s : DSt} {e : End} (m : 0 < M) (hs : FitS M s) (he : Fits M e) : FitS M (upS s e) ∧ (Behind M X (upS s e).lo ↔ Behind M X s.lo) ∧ (AheadS M X (upS s e) ↔ AheadS M X s ∧ Ahead M X e) := by
  unfold upS
  split
  · rename_i h
    refine ⟨⟨hs.lo, fun _ => he⟩, Iff.rfl, ?_⟩
    unfold AheadS
    simp [h]
  · rename_i h
    have fv : s.fv = false := by simpa using h
    have hh := hs.hi fv
    have h3 := cmp_tri m he hh
    obtain ⟨h1, h2⟩ := cmpE_parts m he hh
    split
    · rename_i h
      refine ⟨⟨hs.lo, fun _ => he⟩, Iff.rfl, ?_⟩
      show (s.fv = true ∨ Ahead M X e) ↔ (s.fv = true ∨ Ahead M X s.hi) ∧ Ahead M X e
      rw [fv]
      simp only [Bool.false_eq_true, false_or]
      refine ⟨fun k => ⟨?_, k⟩, fun k => k.2⟩
      unfold Ahead at *
      rcases h with h | ⟨h, hi⟩
      · have := h1.1 h
        rcases k with k | ⟨k, _⟩ <;> exact .inl (by omega)
      · have := h2.1 h
        rcases k with k | ⟨_, k⟩
        · exact .inl (by omega)
        · rw [hi] at k; cases k
    · rename_i h
      refine ⟨hs, Iff.rfl, ?_⟩
      show (s.fv = true ∨ Ahead M X s.hi) ↔ (s.fv = true ∨ Ahead M X s.hi) ∧ Ahead M X e
      rw [fv]
      simp only [Bool.false_eq_true, false_or]
      refine ⟨fun k => ⟨k, ?_⟩, fun k => k.1⟩
      unfold Ahead at *
      by_cases z : cmpE e s.hi = 0
      · have := h2.1 z
        have ei : e.i = true := by
          cases hi : e.i
          · exact absurd (.inr ⟨z, hi⟩) h
          · rfl
        rcases k with k | ⟨k, _⟩
        · exact .inl (by omega)
        · exact .inr ⟨by omega, ei⟩
      · have : 0 < cmpE e s.hi := by
          have : ¬ cmpE e s.hi < 0 := fun x => h (.inl x)
          omega
        have := h3.1 this
        rcases k with k | ⟨k, _⟩ <;> exact .inl (by omega)
abbrev isUp (n : Nat) (c : Row) (k : Nat) : Prop := finB (c k) = true ∧ ¬ k / (n + 1) = 0 ∧ k % (n + 1) = 0
abbrev isFrom (n : Nat) (c : Row) (k : Nat) : Prop := finB (c k) = true ∧ k / (n + 1) = 0 ∧ ¬ k % (n + 1) = 0
theorem step_says {n : Nat} {c : Row} {L : Rats} {M X : Int} {s : DSt} {k : Nat} (m : 0 < M) (hs : FitS M s) (hU : isUp n c k → Fits M (endUp n c L k)) (hF : isFrom n c k → Fits M (endFrom n c L k)) :
    FitS M (dStep n c L s k) ∧ (Behind M X (dStep n c L s k).lo ↔ Behind M X s.lo ∧ (isFrom n c k → Behind M X (endFrom n c L k))) ∧ (AheadS M X (dStep n c L s k) ↔ AheadS M X s ∧ (isUp n c k → Ahead M X (endUp n c L k))) := by
  unfold dStep
  by_cases f : finB (c k) = true
  · rw [if_pos f]
    by_cases u : ¬ k / (n + 1) = 0 ∧ k % (n + 1) = 0
    · rw [if_pos u]
      obtain ⟨h1, h2, h3⟩ := up_says (X := X) m hs (hU ⟨f, u⟩)
      refine ⟨h1, ?_, ?_⟩
      · rw [h2]
        exact ⟨fun h => ⟨h, fun g => absurd g.2.1 u.1⟩, fun h => h.1⟩
      · rw [h3]
        exact ⟨fun h => ⟨h.1, fun _ => h.2⟩, fun h => ⟨h.1, h.2 ⟨f, u⟩⟩⟩
    · rw [if_neg u]
      by_cases g : k / (n + 1) = 0 ∧ ¬ k % (n + 1) = 0
      · rw [if_pos g]
        obtain ⟨h1, h2, h3⟩ := from_says (X := X) m hs (hF ⟨f, g⟩)
        refine ⟨h1, ?_, ?_⟩
        · rw [h2]
          exact ⟨fun h => ⟨h.1, fun _ => h.2⟩, fun h => ⟨h.1, h.2 ⟨f, g⟩⟩⟩
        · rw [h3]
          exact ⟨fun h => ⟨h, fun x => absurd x.2 u⟩, fun h => h.1⟩
      · rw [if_neg g]
        exact ⟨hs, ⟨fun h => ⟨h, fun x => absurd x.2 g⟩, fun h => h.1⟩, ⟨fun h => ⟨h, fun x => absurd x.2 u⟩, fun h => h.1⟩⟩
  · rw [if_neg f]
    exact ⟨hs, ⟨fun h => ⟨h, fun x => absurd x.1 f⟩, fun h => h.1⟩, ⟨fun h => ⟨h, fun x => absurd x.1 f⟩, fun h => h.1⟩⟩
theorem fold_says {n mm : Nat} {c : Row} {L : Rats} {M X : Int} (m : 0 < M) (hU : ∀ k, k < mm → isUp n c k → Fits M (endUp n c L k)) (hF : ∀ k, k < mm → isFrom n c k → Fits M (endFrom n c L k)) (l : List (Fin mm)) (s : DSt) (hs : FitS M s) :
    FitS M (l.foldl (fun s k => dStep n c L s k.val) s) ∧ (Behind M X (l.foldl (fun s k => dStep n c L s k.val) s).lo ↔ Behind M X s.lo ∧ ∀ k ∈ l, isFrom n c k.val → Behind M X (endFrom n c L k.val)) ∧ (AheadS M X (l.foldl (fun s k => dStep n c L s k.val) s) ↔ AheadS M X s ∧ ∀ k ∈ l, isUp n c k.val → Ahead M X (endUp n c L k.val)) := by
  induction l generalizing s with
  | nil => exact ⟨hs, by simp, by simp⟩
  | cons k l ih =>
    obtain ⟨h1, h2, h3⟩ := step_says (X := X) (s := s) m hs (hU k.val k.isLt) (hF k.val k.isLt)
    obtain ⟨i1, i2, i3⟩ := ih _ h1
    rw [List.foldl_cons]
    refine ⟨i1, ?_, ?_⟩
    · rw [i2, h2]
      simp only [List.mem_cons, forall_eq_or_imp]
      exact and_assoc
    · rw [i3, h3]
      simp only [List.mem_cons, forall_eq_or_imp]
      exact and_assoc
theorem dEnd_says {n mm : Nat} {c : Row} {L : Rats} {M X : Int} (m : 0 < M) (hX : 0 ≤ X) (hU : ∀ k, k < mm → isUp n c k → Fits M (endUp n c L k)) (hF : ∀ k, k < mm → isFrom n c k → Fits M (endFrom n c L k)) :
    FitS M (dEnd n mm c L) ∧ (Behind M X (dEnd n mm c L).lo ↔ ∀ k, k < mm → isFrom n c k → Behind M X (endFrom n c L k)) ∧ (AheadS M X (dEnd n mm c L) ↔ ∀ k, k < mm → isUp n c k → Ahead M X (endUp n c L k)) := by
  have f0 : FitS M d0 := ⟨⟨by decide, Int.one_dvd M⟩, fun h => by cases h⟩
  obtain ⟨h1, h2, h3⟩ := fold_says (X := X) m hU hF (List.finRange mm) d0 f0
  refine ⟨h1, ?_, ?_⟩
  · unfold dEnd
    rw [h2]
    have b0 : Behind M X d0.lo := by
      have z : endP M d0.lo = 0 := by simp [endP, d0, parts]
      unfold Behind
      rw [z]
      by_cases e : 0 = X
      · exact .inr ⟨e, rfl⟩
      · exact .inl (by omega)
    exact ⟨fun h k hk => h.2 ⟨k, hk⟩ (List.mem_finRange _), fun h => ⟨b0, fun k _ => h k.val k.isLt⟩⟩
  · unfold dEnd
    rw [h3]
    exact ⟨fun h k hk => h.2 ⟨k, hk⟩ (List.mem_finRange _), fun h => ⟨.inl rfl, fun k _ => h k.val k.isLt⟩⟩
/-! ### What a valuation keeps, in parts -/
theorem keepAt_parts {n : Nat} {c : Row} {L : Rats} {M : Int} {P : Nat → Int} (m : 0 < M) {k : Nat} (hc : rightB (c k) = true) (h : ∀ i, i ≤ n → 0 < (aheadL L).d i ∧ P i * (aheadL L).d i = (aheadL L).n i * M) (hk : k < (n + 1) * (n + 1)) :
    keepAt n c L k = holdsB (c k) (P (k / (n + 1)) - P (k % (n + 1))) M := by
  unfold keepAt
  have hi : k / (n + 1) ≤ n := by have := (Nat.div_lt_iff_lt_mul (show 0 < n + 1 by omega)).2 hk; omega
  have hj : k % (n + 1) ≤ n := by have := Nat.mod_lt k (show 0 < n + 1 by omega); omega
  obtain ⟨pi, ei⟩ := h _ hi
  obtain ⟨pj, ej⟩ := h _ hj
  generalize k / (n + 1) = i at *
  generalize k % (n + 1) = j at *
  rw [keepB_holds _ _ _ _ _ pi pj hc]
  refine holdsB_scale (Int.mul_pos pi pj) m ?_
  generalize (aheadL L).n i = a at *
  generalize (aheadL L).d i = b at *
  generalize (aheadL L).n j = a' at *
  generalize (aheadL L).d j = b' at *
  generalize P i = x at *
  generalize P j = y at *
  have e1 : a * b' * M = x * (b * b') := by rw [Int.mul_assoc, Int.mul_comm b' M, ← Int.mul_assoc, ← ei, Int.mul_assoc]
  have e2 : a' * b * M = y * (b * b') := by rw [Int.mul_assoc, Int.mul_comm b M, ← Int.mul_assoc, ← ej, Int.mul_assoc, Int.mul_comm b' b]
  rw [Int.sub_mul, Int.sub_mul, e1, e2]
theorem holds_fin {b x M : Int} (hb : rightB b = true) (m : 0 < M) : holdsB b x M = true ↔ (finB b = true → (x < valV b * M ∨ (x = valV b * M ∧ valR b = true))) := by
  unfold holdsB
  have g : decide (1 ≤ M) = true := decide_eq_true (by omega)
  by_cases f : finB b = true
  · have e : ¬ b = 2147483647 := by
      simp only [finB, decide_eq_true_eq] at f
      omega
    simp only [f, e, g, decide_false, Bool.false_or, Bool.true_and, forall_const]
    cases valR b
    · simp
    · simp only [if_true, decide_eq_true_eq, and_true]
      omega
  · have e : b = 2147483647 := by
      simp only [finB, rightB, decide_eq_true_eq] at *
      omega
    simp [e]
    intro h
    exact absurd h (by decide)
end Go.Proofs.YteifpplemohdcaaGreat
