/-
  fed: the parts that are left of a zone have nothing in common: in numbers.
-/
import Derived.Test.YtnfkmpickmonoaaQ49
import Derived.Test.YtnfkmpickmonoaaQ40
namespace Go.Proofs.Ytnfkmpickmonoaa
open Go.RowKit Go.Shelf
set_option linter.unusedVariables false
set_option maxRecDepth 100000
theorem pl_zero (a : Int) (h1 : a ≠ opn) (h2 : 1 - a ≠ opn) : pl a (1 - a) = 0 := by
  unfold pl
  rw [if_neg (by simp [h1, h2])]
  have : a % 2 = 0 ∨ a % 2 = 1 := by omega
  rw [if_pos (by omega)]
  omega
/-- What one of them bounds, the other one bounds the other way: nothing in common. -/
theorem apart_of {n m i j : Nat} {c d : Row} {a : Int} (hn : n ≤ 8) (hm : m = (n + 1) * (n + 1)) (hc : ZC n m c) (hd : ZC n m d) (hi : i ≤ n) (hj : j ≤ n) (a0 : -536870912 ≤ a) (a1 : a ≤ 536870913) (h1 : c (i * (n + 1) + j) ≤ a) (h2 : d (j * (n + 1) + i) ≤ 1 - a) : metB n m c d = false := by
  have e : metB n m c d = (closeR n (drf n m (listOf (minR c d) m))).isSome := by
    unfold metB
    rw [tgAll_two n m c d _ hm (fun j => ((zc_made hn hm hc).range j).2) (fun j => ((zc_made hn hm hd).range j).2)]
  rw [e]
  have O := drf_ok n m (listOf (minR c d) m) hm (fun k hk => by
    rw [listOf_get _ _ _ hk]
    have := right_min (c := c) (d := d) (k := k) (zc_right hm hc k) (zc_right hm hd k)
    simpa only [rightB, decide_eq_true_eq] using this)
  cases hp : closeR n (drf n m (listOf (minR c d) m)) with
  | none => rfl
  | some p =>
    exfalso
    have R := close_rounds hn O.fin O.diag hp
    have C := R.cl hn
    have at_ : ∀ x y (b : Int), x ≤ n → y ≤ n → b ≤ 1073741823 → minR c d (x * (n + 1) + y) ≤ b → p x y ≤ b := fun x y b hx hy hb h => by
      have e1 := drf_at n m (listOf (minR c d) m) hm x y hx hy
      rw [listOf_get _ _ _ (by rw [hm]; exact pos_lt hx hy)] at e1
      have l1 := R.le x y hx hy
      rw [e1] at l1
      unfold tgV at l1
      split at l1
      · omega
      · omega
    have p1 := at_ i j a hi hj (by omega) (by unfold minR; omega)
    have p2 := at_ j i (1 - a) hj hi (by omega) (by unfold minR; omega)
    have t := C.tri j (by omega) i i hi hi
    rw [C.one i hi] at t
    have m1 : ∀ x : Int, -536870912 ≤ x → x ≤ 536870913 → F x := fun x y z => by
      unfold F Fin'
      right
      omega
    have u := pl_mono ((C.fin i j hi hj).mono (by decide)) ((C.fin j i hj hi).mono (by decide)) (m1 a a0 a1) (m1 (1 - a) (by omega) (by omega)) p1 p2
    rw [pl_zero a (by unfold opn; omega) (by unfold opn; omega)] at u
    omega
/-- A bound of d, by place, parts them. -/
def Cut (n : Nat) (d y x : Row) : Prop := ∃ i j, i ≤ n ∧ j ≤ n ∧ -536870912 ≤ d (i * (n + 1) + j) ∧ d (i * (n + 1) + j) ≤ 536870913 ∧ y (j * (n + 1) + i) ≤ 1 - d (i * (n + 1) + j) ∧ x (i * (n + 1) + j) ≤ d (i * (n + 1) + j)
theorem Cut.mono {n m : Nat} {d y x x' : Row} (hm : m = (n + 1) * (n + 1)) (h : Cut n d y x) (hx : ∀ k, k < m → x' k ≤ x k) : Cut n d y x' := by
  obtain ⟨i, j, h1, h2, h3, h4, h5, h6⟩ := h
  exact ⟨i, j, h1, h2, h3, h4, h5, Int.le_trans (hx _ (by rw [hm]; exact pos_lt h1 h2)) h6⟩
theorem Cut.apart {n m : Nat} {d y x : Row} (hn : n ≤ 8) (hm : m = (n + 1) * (n + 1)) (h : Cut n d y x) (zy : ZC n m y) (zx : ZC n m x) : metB n m x y = false := by
  obtain ⟨i, j, h1, h2, h3, h4, h5, h6⟩ := h
  exact apart_of hn hm zx zy h1 h2 h3 h4 h6 h5
theorem Cut.away {n m : Nat} {d y : Row} (hn : n ≤ 8) (hm : m = (n + 1) * (n + 1)) (h : Cut n d y d) (zy : ZC n m y) (zd : ZC n m d) : metB n m y d = false := by
  obtain ⟨i, j, h1, h2, h3, h4, h5, h6⟩ := h
  exact apart_of hn hm zy zd h2 h1 (a := 1 - d (i * (n + 1) + j)) (by omega) (by omega) h5 (by omega)
/-- What a zone with one limit more is. -/
theorem con_below {n m k : Nat} {x o : Row} {v : Int} (hn : n ≤ 8) (hm : m = (n + 1) * (n + 1)) (zx : ZC n m x) (hv : rightB v = true) (hk : k < m) (h : conZ n m x k v = some o) (o0 : ¬ o 0 < 1) : ¬ x 0 < 1 ∧ (∀ j, j < m → o j ≤ x j) ∧ o k ≤ v := by
  rcases zone_below hn hm (low_right (k := k) (zc_right hm zx) hv) h with e | ⟨e1, e2⟩
  · rw [e] at o0
    exact absurd (by decide) o0
  · have le : ∀ j, j < m → o j ≤ x j := fun j hj => by
      have := e2 j hj
      unfold lowR at this
      split at this <;> omega
    refine ⟨fun h0 => ?_, le, ?_⟩
    · have := le 0 (zlen7 hm)
      omega
    · have := e2 k hk
      unfold lowR at this
      rw [if_pos rfl] at this
      omega
structure PI (n m : Nat) (c d : Row) (K : Nat) (ys : List YS) (xo : Option Row) : Prop where
  err : ∀ y ∈ ys, y.2 = 0 ∨ y.2 = 10
  le : ∀ y ∈ ys, ∀ r, y.1 = some r → ZC n m r ∧ (¬ r 0 < 1 → (∀ k, k < m → r k ≤ c k) ∧ Cut n d r d)
  pw : ys.Pairwise fun y y' => ∀ r r', y.1 = some r → y'.1 = some r' → ¬ r 0 < 1 → ¬ r' 0 < 1 → Cut n d r r'
  xz : ∀ x, xo = some x → ZC n m x ∧ (¬ x 0 < 1 → (∀ k, k < m → x k ≤ c k) ∧ ∀ y ∈ ys, ∀ r, y.1 = some r → ¬ r 0 < 1 → Cut n d r x)
  len : ys.length ≤ 2 * K
theorem PI.start {n m : Nat} {c d : Row} (zc : ZC n m c) : PI n m c d 0 [] (some c) :=
  ⟨fun y h => (by cases h), fun y h => (by cases h), List.Pairwise.nil, fun x h => by
    injection h with h
    subst h
    exact ⟨zc, fun _ => ⟨fun k _ => Int.le_refl _, fun y h => (by cases h)⟩⟩, Nat.le_refl _⟩
theorem PI.bad {n m : Nat} {c d : Row} {K : Nat} {ys : List YS} {xo : Option Row} (h : PI n m c d K ys xo) (hl : ys.length + 1 ≤ 2 * (K + 1)) : PI n m c d (K + 1) (ys ++ [(none, 10)]) none := by
  refine ⟨fun y hy => ?_, fun y hy r hr => ?_, ?_, fun x hx => by (cases hx), by simpa using hl⟩
  · rcases List.mem_append.1 hy with q | q
    · exact h.err y q
    · rw [List.mem_singleton.1 q]; exact .inr rfl
  · rcases List.mem_append.1 hy with q | q
    · exact h.le y q r hr
    · rw [List.mem_singleton.1 q] at hr; cases hr
  · refine List.pairwise_append.2 ⟨h.pw, List.pairwise_singleton _ _, fun y hy y' hy' r r' h1 h2 => ?_⟩
    rw [List.mem_singleton.1 hy'] at h2
    cases h2
theorem PI.step {n m : Nat} {c d x : Row} {K : Nat} {ys : List YS} (hn : n ≤ 8) (hm : m = (n + 1) * (n + 1)) (hK : K < m) (zd : ZC n m d) (h : PI n m c d K ys (some x)) : PI n m c d (K + 1) (lStep n m d K ys x).1 (lStep n m d K ys x).2 := by
  obtain ⟨zx, hx⟩ := h.xz x rfl
  unfold lStep
  by_cases hk : x K ≤ d K
  · rw [if_pos hk]
    exact ⟨h.err, h.le, h.pw, h.xz, by have := h.len; show ys.length ≤ _; omega⟩
  · rw [if_neg hk]
    obtain ⟨q0, q1, q2⟩ := right_not (zc_right hm zx _) (zc_right hm zd _) hk
    have np : 0 < n + 1 := by omega
    have jn : K % (n + 1) ≤ n := by have := Nat.mod_lt K np; omega
    have in_ : K / (n + 1) ≤ n := by
      have := Nat.div_lt_of_lt_mul (by rw [← hm]; exact hK : K < (n + 1) * (n + 1))
      omega
    have eK : K / (n + 1) * (n + 1) + K % (n + 1) = K := by rw [Nat.mul_comm]; exact Nat.div_add_mod K (n + 1)
    have hk' : K % (n + 1) * (n + 1) + K / (n + 1) < m := by rw [hm]; exact pos_lt jn in_
    cases ho : conZ n m x (K % (n + 1) * (n + 1) + K / (n + 1)) (1 - d K) with
    | none => exact h.bad (by have := h.len; omega)
    | some o =>
      have zo := conZ_zc hn hm zx q2 ho
      have ob := con_below hn hm zx q2 hk' ho
      have cutd : ∀ z : Row, ¬ o 0 < 1 → z K ≤ d K → Cut n d o z := fun z o0 hz => ⟨K / (n + 1), K % (n + 1), in_, jn, by rw [eK]; exact q0, by rw [eK]; exact q1, by rw [eK]; exact (ob o0).2.2, by rw [eK]; exact hz⟩
      have h2 : PI n m c d (K + 1) (ys ++ [(some o, 0)]) none := by
        refine ⟨fun y hy => ?_, fun y hy r hr => ?_, ?_, fun x hx => by (cases hx), by have := h.len; simp; omega⟩
        · rcases List.mem_append.1 hy with q | q
          · exact h.err y q
          · rw [List.mem_singleton.1 q]; exact .inl rfl
        · rcases List.mem_append.1 hy with q | q
          · exact h.le y q r hr
          · rw [List.mem_singleton.1 q] at hr
            injection hr with hr
            subst hr
            refine ⟨zo, fun o0 => ⟨fun k hk => ?_, cutd d o0 (Int.le_refl _)⟩⟩
            obtain ⟨x0, le, -⟩ := ob o0
            exact Int.le_trans (le k hk) ((hx x0).1 k hk)
        · refine List.pairwise_append.2 ⟨h.pw, List.pairwise_singleton _ _, fun y hy y' hy' r r' h1 h2 r0 r0' => ?_⟩
          rw [List.mem_singleton.1 hy'] at h2
          injection h2 with h2
          subst h2
          obtain ⟨x0, le, -⟩ := ob r0'
          exact ((hx x0).2 y hy r h1 r0).mono hm le
      have l2 := h.len
      cases hx' : conZ n m x K (d K) with
      | none =>
        have := h2.bad
        refine ⟨(PI.bad h2 (by simp; omega)).err, (PI.bad h2 (by simp; omega)).le, (PI.bad h2 (by simp; omega)).pw, fun x hx => by (cases hx), by simp; omega⟩
      | some x' =>
        have zx' := conZ_zc hn hm zx (zc_right hm zd _) hx'
        refine ⟨h2.err, h2.le, h2.pw, fun z hz => ?_, h2.len⟩
        injection hz with hz
        subst hz
        refine ⟨zx', fun z0 => ?_⟩
        obtain ⟨x0, le, lk⟩ := con_below hn hm zx (zc_right hm zd _) hK hx' z0
        refine ⟨fun k hk => Int.le_trans (le k hk) ((hx x0).1 k hk), fun y hy r hr r0 => ?_⟩
        rcases List.mem_append.1 hy with q | q
        · exact ((hx x0).2 y q r hr r0).mono hm le
        · rw [List.mem_singleton.1 q] at hr
          injection hr with hr
          subst hr
          exact cutd x' r0 lk
theorem PI.all {n m : Nat} {c d : Row} (hn : n ≤ 8) (hm : m = (n + 1) * (n + 1)) (zc : ZC n m c) (zd : ZC n m d) : ∀ K, K ≤ m → PI n m c d K (leftL n m c d (List.range K)).1 (leftL n m c d (List.range K)).2
  | 0, _ => PI.start zc
  | K + 1, hK => by
    have ih := PI.all hn hm zc zd K (by omega)
    rw [List.range_succ, leftL_snoc]
    generalize leftL n m c d (List.range K) = s at *
    obtain ⟨ys, xo⟩ := s
    cases xo with
    | none => exact ⟨ih.err, ih.le, ih.pw, fun x hx => by (cases hx), by have : ys.length ≤ 2 * K := ih.len; show ys.length ≤ _; omega⟩
    | some x => exact ih.step hn hm (by omega) zd
/-- What is laid is of what is told. -/
theorem lay_sub : ∀ (ys : List YS) (s : List Row), ∃ t, (layL (s, 0) ys).1 = s ++ t ∧ t.Sublist (ys.filterMap (·.1)) ∧ ∀ r ∈ t, ¬ r 0 < 1
  | [], s => ⟨[], by simp [layL], List.nil_sublist _, fun r h => (by cases h)⟩
  | y :: ys, s => by
    have stuck : ∀ t : List Row × Int, t.1 = s → t.2 ≠ 0 → ∃ u, (layL t ys).1 = s ++ u ∧ u.Sublist ((y :: ys).filterMap (·.1)) ∧ ∀ r ∈ u, ¬ r 0 < 1 := fun t h1 h2 => ⟨[], by rw [layL_stuck h2]; simp [h1], List.nil_sublist _, fun r h => (by cases h)⟩
    have go : ∀ u : List Row, (∃ v, u = s ++ v ∧ v.Sublist ((y.1).toList) ∧ ∀ r ∈ v, ¬ r 0 < 1) → ∃ t, (layL (u, 0) ys).1 = s ++ t ∧ t.Sublist ((y :: ys).filterMap (·.1)) ∧ ∀ r ∈ t, ¬ r 0 < 1 := fun u ⟨v, h1, h2, h3⟩ => by
      obtain ⟨t, a, b, c⟩ := lay_sub ys u
      refine ⟨v ++ t, by rw [a, h1, List.append_assoc], ?_, fun r hr => ?_⟩
      · have e : (y :: ys).filterMap (·.1) = (y.1).toList ++ ys.filterMap (·.1) := by
          rw [List.filterMap_cons]
          cases y.1 <;> rfl
        rw [e]
        exact h2.append b
      · rcases List.mem_append.1 hr with q | q
        · exact h3 r q
        · exact c r q
    show ∃ t, (layL (layS (s, 0) y) ys).1 = s ++ t ∧ _
    unfold layS
    rw [if_neg (by simp)]
    by_cases e : y.2 ≠ 0
    · rw [if_pos e]
      exact stuck _ rfl e
    · rw [if_neg e]
      cases hy : y.1 with
      | none => exact (go s ⟨[], by simp, List.nil_sublist _, fun r h => (by cases h)⟩)
      | some c =>
        show ∃ t, (layL (if c 0 < 1 then (s, 0) else if s.length = 4096 then (s, 3) else (s ++ [c], 0)) ys).1 = s ++ t ∧ _
        by_cases c0 : c 0 < 1
        · rw [if_pos c0]
          exact go s ⟨[], by simp, List.nil_sublist _, fun r h => (by cases h)⟩
        · rw [if_neg c0]
          by_cases cl : s.length = 4096
          · rw [if_pos cl]
            exact stuck _ rfl (by simp)
          · rw [if_neg cl]
            exact go _ ⟨[c], rfl, by rw [hy]; exact List.Sublist.refl _, fun r h => by rw [List.mem_singleton.1 h]; exact c0⟩
theorem lay_err2 : ∀ (ys : List YS) (s : List Row), s.length + ys.length ≤ 4096 → (∀ y ∈ ys, y.2 = 0 ∨ y.2 = 10) → (layL (s, 0) ys).2 = 0 ∨ (layL (s, 0) ys).2 = 10
  | [], s, _, _ => .inl rfl
  | y :: ys, s, hl, he => by
    simp only [List.length_cons] at hl
    have he' : ∀ y ∈ ys, y.2 = 0 ∨ y.2 = 10 := fun z hz => he z (List.mem_cons_of_mem _ hz)
    show (layL (layS (s, 0) y) ys).2 = 0 ∨ (layL (layS (s, 0) y) ys).2 = 10
    unfold layS
    rw [if_neg (by simp)]
    by_cases e : y.2 ≠ 0
    · rw [if_pos e, layL_stuck (by exact e)]
      exact he y List.mem_cons_self
    · rw [if_neg e]
      cases y.1 with
      | none => exact lay_err2 ys s (by omega) he'
      | some c =>
        show (layL (if c 0 < 1 then (s, 0) else if s.length = 4096 then (s, 3) else (s ++ [c], 0)) ys).2 = 0 ∨ (layL (if c 0 < 1 then (s, 0) else if s.length = 4096 then (s, 3) else (s ++ [c], 0)) ys).2 = 10
        by_cases c0 : c 0 < 1
        · rw [if_pos c0]
          exact lay_err2 ys s (by omega) he'
        · rw [if_neg c0, if_neg (by omega)]
          exact lay_err2 ys (s ++ [c]) (by simp; omega) he'
/-- What is known of the parts. -/
structure PartsOk (n m : Nat) (c d : Row) (s : List Row × Int) : Prop where
  err : s.2 = 0 ∨ s.2 = 10
  len : s.1.length ≤ 200
  at_ : ∀ r ∈ s.1, ZC n m r ∧ ¬ r 0 < 1 ∧ (∀ k, k < m → r k ≤ c k) ∧ metB n m r d = false
  pw : s.1.Pairwise fun r r' => metB n m r' r = false
theorem parts_ok {n m : Nat} {c d : Row} (hn : n ≤ 8) (hm : m = (n + 1) * (n + 1)) (zc : ZC n m c) (zd : ZC n m d) (c0 : ¬ c 0 < 1) : PartsOk n m c d (minusL n m [c] d) := by
  have m81 : m ≤ 81 := by rw [hm]; exact Nat.mul_le_mul (show n + 1 ≤ 9 by omega) (show n + 1 ≤ 9 by omega)
  have e : minusL n m [c] d = layL ([], 0) (leftY n m c d) := rfl
  rw [e]
  cases hM : metB n m c d with
  | false =>
    rw [less_un n m [] c0 hM, if_neg (by simp)]
    refine ⟨.inl rfl, by simp, fun r hr => ?_, List.pairwise_singleton _ _⟩
    have : r = c := by simpa using hr
    subst this
    exact ⟨zc, c0, fun k _ => Int.le_refl _, hM⟩
  | true =>
    have P := PI.all (c := c) (d := d) hn hm zc zd m (Nat.le_refl _)
    have e2 : leftY n m c d = (leftL n m c d (List.range m)).1 := by unfold leftY; rw [if_pos hM]
    rw [e2]
    generalize (leftL n m c d (List.range m)).1 = ys at *
    generalize (leftL n m c d (List.range m)).2 = xo at *
    obtain ⟨t, h1, h2, h3⟩ := lay_sub ys []
    rw [List.nil_append] at h1
    have l1 := P.len
    have hmem : ∀ r ∈ t, ∃ y ∈ ys, y.1 = some r := fun r hr => by
      obtain ⟨y, hy, e⟩ := List.mem_filterMap.1 (h2.subset hr)
      exact ⟨y, hy, e⟩
    have pwf : (ys.filterMap (·.1)).Pairwise fun r r' => ¬ r 0 < 1 → ¬ r' 0 < 1 → Cut n d r r' := by
      refine List.pairwise_filterMap.2 (P.pw.imp ?_)
      intro y y' h r hr r' hr'
      exact h r r' hr hr'
    refine ⟨lay_err2 ys [] (by simp; omega) P.err, ?_, ?_, ?_⟩
    · rw [h1]
      have := h2.length_le
      have := List.length_filterMap_le (fun y : YS => y.1) ys
      omega
    · rw [h1]
      intro r hr
      obtain ⟨y, hy, e⟩ := hmem r hr
      obtain ⟨zr, h⟩ := P.le y hy r e
      obtain ⟨le, cut⟩ := h (h3 r hr)
      exact ⟨zr, h3 r hr, le, cut.away hn hm zr zd⟩
    · rw [h1]
      refine (List.Pairwise.sublist h2 pwf).imp_of_mem ?_
      intro r r' hr hr' h
      obtain ⟨y, hy, e⟩ := hmem r hr
      obtain ⟨y', hy', e'⟩ := hmem r' hr'
      exact (h (h3 r hr) (h3 r' hr')).apart hn hm (P.le y hy r e).1 (P.le y' hy' r' e').1
end Go.Proofs.Ytnfkmpickmonoaa
