/-
  Texts of right lists, piece by piece: no two lists have one text.
-/
import Derived.Test.YtmnhbokiibaopaaDoorUa
import Derived.Test.YtmnhbokiibaopaaDoorQm
namespace Go.Proofs.YtmnhbokiibaopaaDoor
open Go.RowKit
set_option linter.unusedVariables false
/-- Brackets fit, and no blank stands outside of them. -/
def good : List UInt8 → Nat → Bool
  | [], d => d == 0
  | c :: r, d => if c = 40 then good r (d + 1) else if c = 41 then (match d with | 0 => false | e + 1 => good r e) else if c = 32 then (match d with | 0 => false | e + 1 => good r (e + 1)) else good r d
theorem good_cons (c : UInt8) (r : List UInt8) (d : Nat) : good (c :: r) d = if c = 40 then good r (d + 1) else if c = 41 then (match d with | 0 => false | e + 1 => good r e) else if c = 32 then (match d with | 0 => false | e + 1 => good r (e + 1)) else good r d := rfl
def stop (R : List UInt8) : Prop := R = [] ∨ ∃ r, R = 32 :: r
theorem good_split : ∀ (A A' R R' : List UInt8) (d : Nat), good A d = true → good A' d = true → stop R → stop R' → A ++ R = A' ++ R' → A = A' ∧ R = R'
  | [], [], R, R', d, _, _, _, _, h => ⟨rfl, h⟩
  | [], c :: A', R, R', d, h1, h2, h3, h4, h => by
    have hd : d = 0 := by simpa [good] using h1
    subst hd
    rw [List.nil_append, List.cons_append] at h
    rcases h3 with q | ⟨r, q⟩
    · rw [q] at h; cases h
    · rw [q] at h
      injection h with e1 e2
      subst e1
      simp [good] at h2
  | c :: A, [], R, R', d, h1, h2, h3, h4, h => by
    have hd : d = 0 := by simpa [good] using h2
    subst hd
    rw [List.nil_append, List.cons_append] at h
    rcases h4 with q | ⟨r, q⟩
    · rw [q] at h; cases h
    · rw [q] at h
      injection h with e1 e2
      subst e1
      simp [good] at h1
  | c :: A, c' :: A', R, R', d, h1, h2, h3, h4, h => by
    rw [List.cons_append, List.cons_append] at h
    injection h with e1 e2
    subst e1
    have key : ∃ d', good A d' = true ∧ good A' d' = true := by
      unfold good at h1 h2
      by_cases c1 : c = 40
      · rw [if_pos c1] at h1 h2
        exact ⟨_, h1, h2⟩
      · rw [if_neg c1] at h1 h2
        by_cases c2 : c = 41
        · rw [if_pos c2] at h1 h2
          cases d with
          | zero => cases h1
          | succ e => exact ⟨_, h1, h2⟩
        · rw [if_neg c2] at h1 h2
          by_cases c3 : c = 32
          · rw [if_pos c3] at h1 h2
            cases d with
            | zero => cases h1
            | succ e => exact ⟨_, h1, h2⟩
          · rw [if_neg c3] at h1 h2
            exact ⟨_, h1, h2⟩
    obtain ⟨d', g1, g2⟩ := key
    obtain ⟨r1, r2⟩ := good_split A A' R R' d' g1 g2 h3 h4 e2
    exact ⟨by rw [r1], r2⟩
/-- Inside of brackets it changes nothing. -/
theorem good_in : ∀ (A r : List UInt8) (e d : Nat), good A e = true → good (A ++ r) (e + (d + 1)) = good r (d + 1)
  | [], r, e, d, h => by
    have : e = 0 := by simpa [good] using h
    subst this
    rw [List.nil_append, Nat.zero_add]
  | c :: A, r, e, d, h => by
    rw [List.cons_append]
    rw [good_cons] at h ⊢
    by_cases c1 : c = 40
    · rw [if_pos c1] at h ⊢
      have := good_in A r (e + 1) d h
      rw [show e + (d + 1) + 1 = e + 1 + (d + 1) by omega]
      exact this
    · rw [if_neg c1] at h ⊢
      by_cases c2 : c = 41
      · rw [if_pos c2] at h ⊢
        cases e with
        | zero => cases h
        | succ e' =>
          have := good_in A r e' d h
          rw [show e' + 1 + (d + 1) = e' + (d + 1) + 1 by omega]
          exact this
      · rw [if_neg c2] at h ⊢
        by_cases c3 : c = 32
        · rw [if_pos c3] at h ⊢
          cases e with
          | zero => cases h
          | succ e' =>
            have := good_in A r (e' + 1) d h
            rw [show e' + 1 + (d + 1) = (e' + (d + 1)) + 1 by omega] at this ⊢
            exact this
        · rw [if_neg c3] at h ⊢
          exact good_in A r e d h
theorem good_plain : ∀ (A : List UInt8), (∀ c ∈ A, c ≠ 40 ∧ c ≠ 41 ∧ c ≠ 32) → good A 0 = true
  | [], _ => rfl
  | c :: A, h => by
    obtain ⟨h1, h2, h3⟩ := h c List.mem_cons_self
    unfold good
    rw [if_neg h1, if_neg h2, if_neg h3]
    exact good_plain A (fun x hx => h x (List.mem_cons_of_mem _ hx))
/-- A piece: a word, or an operator of two. -/
abbrev Piece := List UInt8 × Nat
abbrev sg (o : Nat) : List UInt8 := (opR o).2.2.2.1
def cat1 (p : Piece) : List UInt8 := if p.2 = 0 then p.1 else sg p.2
def cat (P : List Piece) : List UInt8 := P.flatMap cat1
theorem cat_cons (p : Piece) (P : List Piece) : cat (p :: P) = cat1 p ++ cat P := List.flatMap_cons
theorem cat_app (P Q : List Piece) : cat (P ++ Q) = cat P ++ cat Q := List.flatMap_append
def isAtom (p : Piece) : Prop := p.2 = 0 ∧ good p.1 0 = true ∧ p.1 ≠ []
def isOp (q : Piece) : Prop := (opR q.2).1 = 2 ∧ q.1 = []
def wfP : List Piece → Prop
  | [] => False
  | [p] => isAtom p
  | p :: q :: r => isAtom p ∧ isOp q ∧ wfP r
theorem op_nz {o : Nat} (h : (opR o).1 = 2) : o ≠ 0 := by
  intro e
  rw [e] at h
  cases h
theorem op_lt {o : Nat} (h : (opR o).1 = 2) : o < 15 := by
  rcases Nat.lt_or_ge o 15 with q | q
  · exact q
  · rw [opR_out o q] at h
    cases h
theorem sg_stop {o : Nat} (h : (opR o).1 = 2) (X : List UInt8) : stop (sg o ++ X) := by
  have t : ∀ o : Nat, o < 15 → (opR o).1 = 2 → (sg o).head? = some 32 := by decide
  have := t o (op_lt h) h
  cases e : sg o with
  | nil => rw [e] at this; cases this
  | cons a r =>
    rw [e] at this
    injection this with this
    subst this
    exact .inr ⟨r ++ X, rfl⟩
theorem sg_inj {o o' : Nat} (h : (opR o).1 = 2) (h' : (opR o').1 = 2) {X X' : List UInt8} (e : sg o ++ X = sg o' ++ X') : o = o' ∧ X = X' := by
  by_cases q : o = o'
  · subst q
    exact ⟨rfl, List.append_cancel_left e⟩
  · have t : ∀ o : Nat, o < 15 → ∀ o' : Nat, o' < 15 → ((opR o).1 = 2 ∧ (opR o').1 = 2 ∧ o ≠ o') → ∃ i, i < 4 ∧ i < (sg o).length ∧ i < (sg o').length ∧ (sg o)[i]? ≠ (sg o')[i]? := by decide +kernel
    obtain ⟨i, _, l1, l2, ne⟩ := t o (op_lt h) o' (op_lt h') ⟨h, h', q⟩
    have := congrArg (fun l => l[i]?) e
    simp only [List.getElem?_append_left l1, List.getElem?_append_left l2] at this
    exact (ne this).elim
theorem cat1_atom {p : Piece} (h : isAtom p) : cat1 p = p.1 := if_pos h.1
theorem cat1_op {q : Piece} (h : isOp q) : cat1 q = sg q.2 := if_neg (op_nz h.1)
theorem cat_inj : ∀ (P P' : List Piece), wfP P → wfP P' → cat P = cat P' → P = P'
  | [], _, h, _, _ => h.elim
  | [p], [], _, h, _ => h.elim
  | _ :: _ :: _, [], _, h, _ => h.elim
  | [p], [p'], h1, h2, e => by
    have e1 : p.1 = p'.1 := by
      have := e
      rw [cat_cons, cat_cons, cat1_atom h1, cat1_atom h2] at this
      simpa [cat] using this
    rw [show p = p' from Prod.ext e1 (h1.1.trans h2.1.symm)]
  | [p], p' :: q' :: r', h1, h2, e => by
    obtain ⟨g1, g2, g3⟩ := h2
    rw [cat_cons, cat_cons, cat_cons, cat1_atom h1, cat1_atom g1, cat1_op g2] at e
    have := good_split p.1 p'.1 (cat []) (sg q'.2 ++ cat r') 0 h1.2.1 g1.2.1 (.inl rfl) (sg_stop g2.1 _) e
    rcases sg_stop g2.1 (cat r') with q | ⟨r, q⟩
    · have hx : (sg q'.2).length = 0 := by
        have := congrArg List.length q
        simp at this
        exact List.length_eq_zero_iff.2 this.1
      have t : ∀ o : Nat, o < 15 → (opR o).1 = 2 → (sg o).length ≠ 0 := by decide
      exact (t _ (op_lt g2.1) g2.1 hx).elim
    · rw [q] at this
      exact absurd this.2 (by simp [cat])
  | p :: q :: r, [p'], h1, h2, e => by
    obtain ⟨g1, g2, g3⟩ := h1
    rw [cat_cons, cat_cons, cat_cons, cat1_atom h2, cat1_atom g1, cat1_op g2] at e
    have := good_split p.1 p'.1 (sg q.2 ++ cat r) (cat []) 0 g1.2.1 h2.2.1 (sg_stop g2.1 _) (.inl rfl) e
    rcases sg_stop g2.1 (cat r) with q0 | ⟨r0, q0⟩
    · have hx : (sg q.2).length = 0 := by
        have := congrArg List.length q0
        simp at this
        exact List.length_eq_zero_iff.2 this.1
      have t : ∀ o : Nat, o < 15 → (opR o).1 = 2 → (sg o).length ≠ 0 := by decide
      exact (t _ (op_lt g2.1) g2.1 hx).elim
    · rw [q0] at this
      exact absurd this.2 (by simp [cat])
  | p :: q :: r, p' :: q' :: r', h1, h2, e => by
    obtain ⟨g1, g2, g3⟩ := h1
    obtain ⟨k1, k2, k3⟩ := h2
    rw [cat_cons, cat_cons, cat_cons, cat_cons, cat1_atom g1, cat1_atom k1, cat1_op g2, cat1_op k2] at e
    obtain ⟨e1, e2⟩ := good_split p.1 p'.1 _ _ 0 g1.2.1 k1.2.1 (sg_stop g2.1 _) (sg_stop k2.1 _) e
    obtain ⟨e3, e4⟩ := sg_inj g2.1 k2.1 e2
    have e5 := cat_inj r r' g3 k3 e4
    rw [show p = p' from Prod.ext e1 (g1.1.trans k1.1.symm), show q = q' from Prod.ext (g2.2.trans k2.2.symm) e3, e5]
theorem wf_join : ∀ (P Q : List Piece) (o : Nat), wfP P → wfP Q → (opR o).1 = 2 → wfP (P ++ ([], o) :: Q)
  | [], _, _, h, _, _ => h.elim
  | [p], Q, o, h, hq, ho => by
    cases Q with
    | nil => exact hq.elim
    | cons a r => exact ⟨h, ⟨ho, rfl⟩, hq⟩
  | p :: q :: r, Q, o, h, hq, ho => ⟨h.1, h.2.1, wf_join r Q o h.2.2 hq ho⟩
/-- Inside of brackets pieces change nothing. -/
theorem cat_in : ∀ (P : List Piece) (r : List UInt8) (d : Nat), wfP P → good (cat P ++ r) (d + 1) = good r (d + 1)
  | [], _, _, h => h.elim
  | [p], r, d, h => by
    rw [cat_cons, cat1_atom h]
    have := good_in p.1 r 0 d h.2.1
    simpa [cat] using this
  | p :: q :: r', r, d, h => by
    rw [cat_cons, cat_cons, cat1_atom h.1, cat1_op h.2.1, List.append_assoc, List.append_assoc]
    have e1 := good_in p.1 (sg q.2 ++ (cat r' ++ r)) 0 d h.1.2.1
    rw [Nat.zero_add] at e1
    rw [e1]
    have t : ∀ o : Nat, o < 15 → (opR o).1 = 2 → ∀ c ∈ sg o, c ≠ 40 ∧ c ≠ 41 := by decide
    have hc := t _ (op_lt h.2.1.1) h.2.1.1
    have e2 : ∀ (s x : List UInt8), (∀ c ∈ s, c ≠ 40 ∧ c ≠ 41) → good (s ++ x) (d + 1) = good x (d + 1) := by
      intro s x
      induction s with
      | nil => intro _; rfl
      | cons c s ih =>
        intro hs
        obtain ⟨h1, h2⟩ := hs c List.mem_cons_self
        have ih' := ih (fun y hy => hs y (List.mem_cons_of_mem _ hy))
        rw [List.cons_append, good_cons, if_neg h1, if_neg h2]
        by_cases c3 : c = 32
        · rw [if_pos c3]; exact ih'
        · rw [if_neg c3]; exact ih'
    rw [e2 _ _ hc]
    exact cat_in r' r d h.2.2
theorem good_bracket {P : List Piece} (h : wfP P) : good (40 :: (cat P ++ [41])) 0 = true := by
  unfold good
  rw [if_pos rfl, cat_in P [41] 0 h]
  rfl
end Go.Proofs.YtmnhbokiibaopaaDoor
