/-
  fed: the parts that are left of a zone have nothing in common: in numbers.
-/
import Derived.Test.YtnfkmpickmonoaaGreatQ35
import Derived.Test.YtnfkmpickmonoaaGreatQ31
import Derived.Deep.RegionHeld3
namespace Go.Proofs.YtnfkmpickmonoaaGreat
open Go.RowKit Go.Shelf
set_option linter.unusedVariables false
set_option maxRecDepth 100000
/-- A bound of d, by place, parts them. -/
def Cut (n : Nat) (d y x : Row) : Prop := ∃ i j, i ≤ n ∧ j ≤ n ∧ -536870912 ≤ d (i * (n + 1) + j) ∧ d (i * (n + 1) + j) ≤ 536870913 ∧ y (j * (n + 1) + i) ≤ 1 - d (i * (n + 1) + j) ∧ x (i * (n + 1) + j) ≤ d (i * (n + 1) + j)
theorem Cut.mono {n m : Nat} {d y x x' : Row} (hm : m = (n + 1) * (n + 1)) (h : Cut n d y x) (hx : ∀ k, k < m → x' k ≤ x k) : Cut n d y x' := by
  obtain ⟨i, j, h1, h2, h3, h4, h5, h6⟩ := h
  exact ⟨i, j, h1, h2, h3, h4, h5, Int.le_trans (hx _ (by rw [hm]; exact pos_lt h1 h2)) h6⟩
/-- What a zone with one limit more is. -/
theorem con_below {n m k : Nat} {x o : Row} {v : Int} (hn : n ≤ 8) (hm : m = (n + 1) * (n + 1)) (zx : ZC n m x) (hv : rightB v = true) (hk : k < m) (h : conZ n m x k v = some o) (o0 : ¬ o 0 < 1) : ¬ x 0 < 1 ∧ (∀ j, j < m → o j ≤ x j) ∧ o k ≤ v := by
  rcases zone_below hn hm (low_right (k := k) (zc_right hm zx) hv) h with e | ⟨e1, e2⟩
  · rw [e] at o0
    exact absurd (by decide) o0
  · have le : ∀ j, j < m → o j ≤ x j := fun j hj => by
      have := e2 j hj
      unfold lowR at this
      split at this <;> omega
    refine ⟨fun h0 => ?_, le, ?_⟩
    · have := le 0 (zlen7 hm)
      omega
    · have := e2 k hk
      unfold lowR at this
      rw [if_pos rfl] at this
      omega
structure PI (n m : Nat) (c d : Row) (K : Nat) (ys : List YS) (xo : Option Row) : Prop where
  err : ∀ y ∈ ys, y.2 = 0 ∨ y.2 = 10
  le : ∀ y ∈ ys, ∀ r, y.1 = some r → ZC n m r ∧ (¬ r 0 < 1 → (∀ k, k < m → r k ≤ c k) ∧ Cut n d r d)
  pw : ys.Pairwise fun y y' => ∀ r r', y.1 = some r → y'.1 = some r' → ¬ r 0 < 1 → ¬ r' 0 < 1 → Cut n d r r'
  xz : ∀ x, xo = some x → ZC n m x ∧ (¬ x 0 < 1 → (∀ k, k < m → x k ≤ c k) ∧ ∀ y ∈ ys, ∀ r, y.1 = some r → ¬ r 0 < 1 → Cut n d r x)
  len : ys.length ≤ 2 * K
theorem PI.start {n m : Nat} {c d : Row} (zc : ZC n m c) : PI n m c d 0 [] (some c) :=
  ⟨fun y h => (by cases h), fun y h => (by cases h), List.Pairwise.nil, fun x h => by
    injection h with h
    subst h
    exact ⟨zc, fun _ => ⟨fun k _ => Int.le_refl _, fun y h => (by cases h)⟩⟩, Nat.le_refl _⟩
theorem PI.bad {n m : Nat} {c d : Row} {K : Nat} {ys : List YS} {xo : Option Row} (h : PI n m c d K ys xo) (hl : ys.length + 1 ≤ 2 * (K + 1)) : PI n m c d (K + 1) (ys ++ [(none, 10)]) none := by
  refine ⟨fun y hy => ?_, fun y hy r hr => ?_, ?_, fun x hx => by (cases hx), by simpa using hl⟩
  · rcases List.mem_append.1 hy with q | q
    · exact h.err y q
    · rw [List.mem_singleton.1 q]; exact .inr rfl
  · rcases List.mem_append.1 hy with q | q
    · exact h.le y q r hr
    · rw [List.mem_singleton.1 q] at hr; cases hr
  · refine List.pairwise_append.2 ⟨h.pw, List.pairwise_singleton _ _, fun y hy y' hy' r r' h1 h2 => ?_⟩
    rw [List.mem_singleton.1 hy'] at h2
    cases h2
theorem PI.step {n m : Nat} {c d x : Row} {K : Nat} {ys : List YS} (hn : n ≤ 8) (hm : m = (n + 1) * (n + 1)) (hK : K < m) (zd : ZC n m d) (h : PI n m c d K ys (some x)) : PI n m c d (K + 1) (lStep n m d K ys x).1 (lStep n m d K ys x).2 := by
  obtain ⟨zx, hx⟩ := h.xz x rfl
  unfold lStep
  by_cases hk : x K ≤ d K
  · rw [if_pos hk]
    exact ⟨h.err, h.le, h.pw, h.xz, by have := h.len; show ys.length ≤ _; omega⟩
  · rw [if_neg hk]
    obtain ⟨q0, q1, q2⟩ := right_not (zc_right hm zx _) (zc_right hm zd _) hk
    have np : 0 < n + 1 := by omega
    have jn : K % (n + 1) ≤ n := by have := Nat.mod_lt K np; omega
    have in_ : K / (n + 1) ≤ n := by
      have := Nat.div_lt_of_lt_mul (by rw [← hm]; exact hK : K < (n + 1) * (n + 1))
      omega
    have eK : K / (n + 1) * (n + 1) + K % (n + 1) = K := by rw [Nat.mul_comm]; exact Nat.div_add_mod K (n + 1)
    have hk' : K % (n + 1) * (n + 1) + K / (n + 1) < m := by rw [hm]; exact pos_lt jn in_
    cases ho : conZ n m x (K % (n + 1) * (n + 1) + K / (n + 1)) (1 - d K) with
    | none => exact h.bad (by have := h.len; omega)
    | some o =>
      have zo := conZ_zc hn hm zx q2 ho
      have ob := con_below hn hm zx q2 hk' ho
      have cutd : ∀ z : Row, ¬ o 0 < 1 → z K ≤ d K → Cut n d o z := fun z o0 hz => ⟨K / (n + 1), K % (n + 1), in_, jn, by rw [eK]; exact q0, by rw [eK]; exact q1, by rw [eK]; exact (ob o0).2.2, by rw [eK]; exact hz⟩
      have h2 : PI n m c d (K + 1) (ys ++ [(some o, 0)]) none := by
        refine ⟨fun y hy => ?_, fun y hy r hr => ?_, ?_, fun x hx => by (cases hx), by have := h.len; simp; omega⟩
        · rcases List.mem_append.1 hy with q | q
          · exact h.err y q
          · rw [List.mem_singleton.1 q]; exact .inl rfl
        · rcases List.mem_append.1 hy with q | q
          · exact h.le y q r hr
          · rw [List.mem_singleton.1 q] at hr
            injection hr with hr
            subst hr
            refine ⟨zo, fun o0 => ⟨fun k hk => ?_, cutd d o0 (Int.le_refl _)⟩⟩
            obtain ⟨x0, le, -⟩ := ob o0
            exact Int.le_trans (le k hk) ((hx x0).1 k hk)
        · refine List.pairwise_append.2 ⟨h.pw, List.pairwise_singleton _ _, fun y hy y' hy' r r' h1 h2 r0 r0' => ?_⟩
          rw [List.mem_singleton.1 hy'] at h2
          injection h2 with h2
          subst h2
          obtain ⟨x0, le, -⟩ := ob r0'
          exact ((hx x0).2 y hy r h1 r0).mono hm le
      have l2 := h.len
      cases hx' : conZ n m x K (d K) with
      | none =>
        have := h2.bad
        refine ⟨(PI.bad h2 (by simp; omega)).err, (PI.bad h2 (by simp; omega)).le, (PI.bad h2 (by simp; omega)).pw, fun x hx => by (cases hx), by simp; omega⟩
      | some x' =>
        have zx' := conZ_zc hn hm zx (zc_right hm zd _) hx'
        refine ⟨h2.err, h2.le, h2.pw, fun z hz => ?_, h2.len⟩
        injection hz with hz
        subst hz
        refine ⟨zx', fun z0 => ?_⟩
        obtain ⟨x0, le, lk⟩ := con_below hn hm zx (zc_right hm zd _) hK hx' z0
        refine ⟨fun k hk => Int.le_trans (le k hk) ((hx x0).1 k hk), fun y hy r hr r0 => ?_⟩
        rcases List.mem_append.1 hy with q | q
        · exact ((hx x0).2 y q r hr r0).mono hm le
        · rw [List.mem_singleton.1 q] at hr
          injection hr with hr
          subst hr
          exact cutd x' r0 lk
theorem PI.all {n m : Nat} {c d : Row} (hn : n ≤ 8) (hm : m = (n + 1) * (n + 1)) (zc : ZC n m c) (zd : ZC n m d) : ∀ K, K ≤ m → PI n m c d K (leftL n m c d (List.range K)).1 (leftL n m c d (List.range K)).2
  | 0, _ => PI.start zc
  | K + 1, hK => by
    have ih := PI.all hn hm zc zd K (by omega)
    rw [List.range_succ, leftL_snoc]
    generalize leftL n m c d (List.range K) = s at *
    obtain ⟨ys, xo⟩ := s
    cases xo with
    | none => exact ⟨ih.err, ih.le, ih.pw, fun x hx => by (cases hx), by have : ys.length ≤ 2 * K := ih.len; show ys.length ≤ _; omega⟩
    | some x => exact ih.step hn hm (by omega) zd
/-- What is laid is of what is told. -/
theorem lay_sub : ∀ (ys : List YS) (s : List Row), ∃ t, (layL (s, 0) ys).1 = s ++ t ∧ t.Sublist (ys.filterMap (·.1)) ∧ ∀ r ∈ t, ¬ r 0 < 1
  | [], s => ⟨[], by simp [layL], List.nil_sublist _, fun r h => (by cases h)⟩
  | y :: ys, s => by
    have stuck : ∀ t : List Row × Int, t.1 = s → t.2 ≠ 0 → ∃ u, (layL t ys).1 = s ++ u ∧ u.Sublist ((y :: ys).filterMap (·.1)) ∧ ∀ r ∈ u, ¬ r 0 < 1 := fun t h1 h2 => ⟨[], by rw [layL_stuck h2]; simp [h1], List.nil_sublist _, fun r h => (by cases h)⟩
    have go : ∀ u : List Row, (∃ v, u = s ++ v ∧ v.Sublist ((y.1).toList) ∧ ∀ r ∈ v, ¬ r 0 < 1) → ∃ t, (layL (u, 0) ys).1 = s ++ t ∧ t.Sublist ((y :: ys).filterMap (·.1)) ∧ ∀ r ∈ t, ¬ r 0 < 1 := fun u ⟨v, h1, h2, h3⟩ => by
      obtain ⟨t, a, b, c⟩ := lay_sub ys u
      refine ⟨v ++ t, by rw [a, h1, List.append_assoc], ?_, fun r hr => ?_⟩
      · have e : (y :: ys).filterMap (·.1) = (y.1).toList ++ ys.filterMap (·.1) := by
          rw [List.filterMap_cons]
          cases y.1 <;> rfl
        rw [e]
        exact h2.append b
      · rcases List.mem_append.1 hr with q | q
        · exact h3 r q
        · exact c r q
    show ∃ t, (layL (layS (s, 0) y) ys).1 = s ++ t ∧ _
    unfold layS
    rw [if_neg (by simp)]
    by_cases e : y.2 ≠ 0
    · rw [if_pos e]
      exact stuck _ rfl e
    · rw [if_neg e]
      cases hy : y.1 with
      | none => exact (go s ⟨[], by simp, List.nil_sublist _, fun r h => (by cases h)⟩)
      | some c =>
        show ∃ t, (layL (if c 0 < 1 then (s, 0) else if s.length = 4096 then (s, 3) else (s ++ [c], 0)) ys).1 = s ++ t ∧ _
        by_cases c0 : c 0 < 1
        · rw [if_pos c0]
          exact go s ⟨[], by simp, List.nil_sublist _, fun r h => (by cases h)⟩
        · rw [if_neg c0]
          by_cases cl : s.length = 4096
          · rw [if_pos cl]
            exact stuck _ rfl (by simp)
          · rw [if_neg cl]
            exact go _ ⟨[c], rfl, by rw [hy]; exact List.Sublist.refl _, fun r h => by rw [List.mem_singleton.1 h]; exact c0⟩
end Go.Proofs.YtnfkmpickmonoaaGreat

/-
  fed: Includes by the document.
-/
namespace Go.Proofs.YtnfkmpickmonoaaGreat
open Go.RowKit Go.Shelf
set_option linter.unusedVariables false
set_option maxRecDepth 100000
attribute [local go_sem] Oper.semAt_some
theorem left_zcs {n m : Nat} {c d : Row} (hn : n ≤ 8) (hm : m = (n + 1) * (n + 1)) (zc : ZC n m c) (zd : ZC n m d) : ∀ y ∈ leftY n m c d, ∀ r, y.1 = some r → ZC n m r := fun y hy r hr => by
  unfold leftY at hy
  split at hy
  · exact ((PI.all (c := c) (d := d) hn hm zc zd m (Nat.le_refl _)).le y hy r hr).1
  · rw [List.mem_singleton.1 hy] at hr
    injection hr with hr
    rw [← hr]
    exact zc
theorem minus_zcs {n m : Nat} {d : Row} (hn : n ≤ 8) (hm : m = (n + 1) * (n + 1)) (zd : ZC n m d) {cs : List Row} (hz : ZCs n m cs) : ZCs n m (minusL n m cs d).1 := by
  have key : ∀ (cs : List Row) (s : List Row × Int), ZCs n m cs → ZCs n m s.1 → ZCs n m (cs.foldl (fun s c => layL s (leftY n m c d)) s).1 := by
    intro cs
    induction cs with
    | nil => intro s _ h; exact h
    | cons c cs ih =>
      intro s hc hs
      rw [List.foldl_cons]
      refine ih _ (fun r hr => hc r (List.mem_cons_of_mem _ hr)) ?_
      obtain ⟨s, e⟩ := s
      by_cases h0 : e = 0
      · subst h0
        obtain ⟨t, h1, h2, h3⟩ := lay_sub (leftY n m c d) s
        rw [h1]
        intro r hr
        rcases List.mem_append.1 hr with q | q
        · exact hs r q
        · obtain ⟨y, hy, e⟩ := List.mem_filterMap.1 (h2.subset q)
          exact ⟨left_zcs hn hm (hc c List.mem_cons_self).1 zd y hy r e, h3 r q⟩
      · rw [layL_stuck h0]
        exact hs
  exact key cs ([], 0) hz (fun r hr => by cases hr)
end Go.Proofs.YtnfkmpickmonoaaGreat
