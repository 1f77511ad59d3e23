/-
  fed: Minus, Meet, Fewer in points, over rows.
-/
import Derived.Test.YtnfkmpickmonoaaGreatQ48
namespace Go.Proofs.YtnfkmpickmonoaaGreat
open Go.RowKit Go.Shelf
set_option linter.unusedVariables false
set_option maxRecDepth 100000
theorem lay_all : ∀ (ys : List YS) (s : List Row), (layL (s, 0) ys).2 = 0 → (layL (s, 0) ys).1 = s ++ (ys.filterMap (·.1)).filter (fun c => decide (¬ c 0 < 1)) ∧ ∀ y ∈ ys, y.2 = 0
  | [], s, _ => ⟨by simp [layL], fun y hy => by cases hy⟩
  | y :: ys, s, h => by
    have h' : (layL (layS (s, 0) y) ys).2 = 0 := h
    show (layL (layS (s, 0) y) ys).1 = _ ∧ _
    by_cases e : y.2 = 0
    · have key : ∀ u : List Row, layS (s, 0) y = (u, 0) → u = s ++ (y.1.toList).filter (fun c => decide (¬ c 0 < 1)) → (layL (layS (s, 0) y) ys).1 = s ++ ((y :: ys).filterMap (·.1)).filter (fun c => decide (¬ c 0 < 1)) ∧ ∀ z ∈ y :: ys, z.2 = 0 := fun u e1 e2 => by
        rw [e1] at h' ⊢
        obtain ⟨a, b⟩ := lay_all ys u h'
        refine ⟨?_, fun z hz => ?_⟩
        · have e3 : (y :: ys).filterMap (·.1) = (y.1).toList ++ ys.filterMap (·.1) := by
            rw [List.filterMap_cons]
            cases y.1 <;> rfl
          rw [a, e2, e3, List.filter_append, List.append_assoc]
        · rcases List.mem_cons.1 hz with q | q
          · rw [q]; exact e
          · exact b z q
      cases hy : y.1 with
      | none =>
        have e1 : layS (s, 0) y = (s, 0) := by
          unfold layS
          rw [if_neg (by simp), if_neg (by simpa using e), hy]
        exact key s e1 (by rw [hy]; simp)
      | some c =>
        by_cases c0 : c 0 < 1
        · have e1 : layS (s, 0) y = (s, 0) := by
            unfold layS
            rw [if_neg (by simp), if_neg (by simpa using e), hy]
            show (if c 0 < 1 then (s, (0 : Int)) else if s.length = 4096 then (s, 3) else (s ++ [c], 0)) = _
            rw [if_pos c0]
          exact key s e1 (by rw [hy]; simp [c0])
        · by_cases cl : s.length = 4096
          · exfalso
            have e1 : layS (s, 0) y = (s, 3) := by
              unfold layS
              rw [if_neg (by simp), if_neg (by simpa using e), hy]
              show (if c 0 < 1 then (s, (0 : Int)) else if s.length = 4096 then (s, 3) else (s ++ [c], 0)) = _
              rw [if_neg c0, if_pos cl]
            rw [e1, layL_stuck (by simp)] at h'
            exact absurd h' (by simp)
          · have e1 : layS (s, 0) y = (s ++ [c], 0) := by
              unfold layS
              rw [if_neg (by simp), if_neg (by simpa using e), hy]
              show (if c 0 < 1 then (s, (0 : Int)) else if s.length = 4096 then (s, 3) else (s ++ [c], 0)) = _
              rw [if_neg c0, if_neg cl]
            exact key _ e1 (by
              rw [hy]
              show s ++ [c] = s ++ List.filter (fun c : Row => decide (¬ c 0 < 1)) [c]
              rw [List.filter_cons_of_pos (by exact decide_eq_true c0)]
              rfl)
    · exfalso
      have e1 : layS (s, 0) y = (s, y.2) := by
        unfold layS
        rw [if_neg (by simp), if_pos e]
      rw [e1, layL_stuck e] at h'
      exact e h'
theorem lay_in {n m : Nat} {V : Nat → Int} {D : Int} (hm : m = (n + 1) * (n + 1)) (hv : Val7 V D) {ys : List YS} {s : List Row} (hz : ∀ y ∈ ys, ∀ r, y.1 = some r → ZC n m r) (h : (layL (s, 0) ys).2 = 0) :
    (∃ r ∈ (layL (s, 0) ys).1, inV n m r V D = true) ↔ (∃ r ∈ s, inV n m r V D = true) ∨ ∃ y ∈ ys, ∃ r, y.1 = some r ∧ inV n m r V D = true := by
  rw [(lay_all ys s h).1]
  constructor
  · rintro ⟨r, hr, hin⟩
    rcases List.mem_append.1 hr with q | q
    · exact .inl ⟨r, q, hin⟩
    · obtain ⟨y, hy, e⟩ := List.mem_filterMap.1 (List.mem_filter.1 q).1
      exact .inr ⟨y, hy, r, e, hin⟩
  · rintro (⟨r, hr, hin⟩ | ⟨y, hy, r, e, hin⟩)
    · exact ⟨r, List.mem_append.2 (.inl hr), hin⟩
    · refine ⟨r, List.mem_append.2 (.inr (List.mem_filter.2 ⟨List.mem_filterMap.2 ⟨y, hy, e⟩, ?_⟩)), hin⟩
      refine decide_eq_true fun c0 => ?_
      rw [inV_zero hm hv (hz y hy r e) c0] at hin
      cases hin
theorem left_err {n m : Nat} {c d : Row} : ∀ K, (leftL n m c d (List.range K)).2 = none → ∃ y ∈ (leftL n m c d (List.range K)).1, y.2 ≠ 0
  | 0, h => by cases h
  | K + 1, h => by
    rw [List.range_succ, leftL_snoc] at h ⊢
    have ih := left_err (n := n) (m := m) (c := c) (d := d) K
    generalize leftL n m c d (List.range K) = s at *
    obtain ⟨ys, xo⟩ := s
    cases xo with
    | none => exact ih rfl
    | some x =>
      have h : (lStep n m d K ys x).2 = none := h
      show ∃ y ∈ (lStep n m d K ys x).1, y.2 ≠ 0
      unfold lStep at h ⊢
      by_cases hk : x K ≤ d K
      · rw [if_pos hk] at h; cases h
      · rw [if_neg hk] at h ⊢
        cases ho : conZ n m x (K % (n + 1) * (n + 1) + K / (n + 1)) (1 - d K) with
        | none => exact ⟨(none, 10), by simp, by simp⟩
        | some o =>
          simp only [ho] at h ⊢
          cases hx : conZ n m x K (d K) with
          | none => exact ⟨(none, 10), by simp, by simp⟩
          | some z => simp only [hx] at h; cases h
theorem one_in {n m : Nat} {c d : Row} {V : Nat → Int} {D : Int} {s : List Row} (hn : n ≤ 8) (hm : m = (n + 1) * (n + 1)) (hv : Val7 V D) (zc : ZC n m c) (zd : ZC n m d) (h : (layL (s, 0) (leftY n m c d)).2 = 0) :
    (∃ r ∈ (layL (s, 0) (leftY n m c d)).1, inV n m r V D = true) ↔ (∃ r ∈ s, inV n m r V D = true) ∨ (inV n m c V D = true ∧ ¬ inV n m d V D = true) := by
  rw [lay_in hm hv (left_zcs hn hm zc zd) h]
  refine or_congr_right ?_
  cases hM : metB n m c d with
  | false =>
    have e : leftY n m c d = [(some c, 0)] := by unfold leftY; rw [hM]; rfl
    rw [e]
    constructor
    · rintro ⟨y, hy, r, hr, hin⟩
      rw [List.mem_singleton.1 hy] at hr
      injection hr with hr
      subst hr
      exact ⟨hin, fun hd => unmet_in hn hm hv zc zd hM ⟨hin, hd⟩⟩
    · rintro ⟨hin, -⟩
      exact ⟨_, List.mem_singleton.2 rfl, c, rfl, hin⟩
  | true =>
    have e : leftY n m c d = (leftL n m c d (List.range m)).1 := by unfold leftY; rw [if_pos hM]
    rw [e] at h ⊢
    have he := (lay_all _ _ h).2
    cases hx : (leftL n m c d (List.range m)).2 with
    | none =>
      obtain ⟨y, hy, hne⟩ := left_err m hx
      exact absurd (he y hy) hne
    | some x =>
      have I := LI.all (V := V) (D := D) hn hm hv zc zd m (Nat.le_refl _) x hx
      constructor
      · rintro ⟨y, hy, r, hr, hin⟩
        exact ⟨I.iff.2 (.inl ⟨y, hy, r, hr, hin⟩), I.no y hy r hr hin⟩
      · rintro ⟨hc, hd⟩
        rcases I.iff.1 hc with q | q
        · exact q
        · exact absurd ((inV_cells hm).2 (I.up q)) hd
theorem minus_in {n m : Nat} {d : Row} {V : Nat → Int} {D : Int} (hn : n ≤ 8) (hm : m = (n + 1) * (n + 1)) (hv : Val7 V D) (zd : ZC n m d) {cs : List Row} (hz : ZCs n m cs) (h : (minusL n m cs d).2 = 0) :
    (∃ r ∈ (minusL n m cs d).1, inV n m r V D = true) ↔ (∃ c ∈ cs, inV n m c V D = true) ∧ ¬ inV n m d V D = true := by
  have key : ∀ (cs : List Row) (s : List Row), ZCs n m cs → (cs.foldl (fun s c => layL s (leftY n m c d)) (s, 0)).2 = 0 → ((∃ r ∈ (cs.foldl (fun s c => layL s (leftY n m c d)) (s, 0)).1, inV n m r V D = true) ↔ (∃ r ∈ s, inV n m r V D = true) ∨ ((∃ c ∈ cs, inV n m c V D = true) ∧ ¬ inV n m d V D = true)) := by
    intro cs
    induction cs with
    | nil => intro s _ _; simp
    | cons c cs ih =>
      intro s hc h
      rw [List.foldl_cons] at h ⊢
      have h1 : (layL (s, 0) (leftY n m c d)).2 = 0 := by
        by_cases q : (layL (s, 0) (leftY n m c d)).2 = 0
        · exact q
        · rw [fold_stuck q] at h
          exact absurd h q
      have e : layL (s, 0) (leftY n m c d) = ((layL (s, 0) (leftY n m c d)).1, 0) := Prod.ext rfl h1
      have O := one_in (V := V) (D := D) hn hm hv (hc c List.mem_cons_self).1 zd h1
      rw [e] at h ⊢
      rw [ih _ (fun r hr => hc r (List.mem_cons_of_mem _ hr)) h, O]
      simp only [List.mem_cons, exists_eq_or_imp]
      constructor
      · rintro ((a | ⟨a, b⟩) | ⟨a, b⟩)
        · exact .inl a
        · exact .inr ⟨.inl a, b⟩
        · exact .inr ⟨.inr a, b⟩
      · rintro (a | ⟨a | a, b⟩)
        · exact .inl (.inl a)
        · exact .inl (.inr ⟨a, b⟩)
        · exact .inr ⟨a, b⟩
  have := key cs [] hz h
  simp only [List.not_mem_nil, false_and, exists_false, false_or] at this
  exact this
theorem meetL_in {n m : Nat} {d : Row} {V : Nat → Int} {D : Int} (hn : n ≤ 8) (hm : m = (n + 1) * (n + 1)) (hv : Val7 V D) (zd : ZC n m d) {cs : List Row} (hz : ZCs n m cs) (h : (meetL n m cs d).2 = 0) :
    (∃ r ∈ (meetL n m cs d).1, inV n m r V D = true) ↔ (∃ c ∈ cs, inV n m c V D = true) ∧ inV n m d V D = true := by
  have hy : ∀ y ∈ cs.map (fun c => comY n m c d), ∀ r, y.1 = some r → ∃ c ∈ cs, zoneR n (drf n m (listOf (minR c d) m)) = some r := fun y hy r hr => by
    obtain ⟨c, hc, rfl⟩ := List.mem_map.1 hy
    refine ⟨c, hc, ?_⟩
    unfold comY at hr
    cases ho : zoneR n (drf n m (listOf (minR c d) m)) with
    | none => simp only [ho] at hr; cases hr
    | some o => simp only [ho] at hr; exact hr
  have he := (lay_all _ _ h).2
  show (∃ r ∈ (layL ([], 0) (cs.map fun c => comY n m c d)).1, _) ↔ _
  rw [lay_in hm hv (fun y hy' r hr => by
    obtain ⟨c, hc, e⟩ := hy y hy' r hr
    exact com_zc hn hm (hz c hc).1 zd e) h]
  constructor
  · rintro (⟨r, hr, -⟩ | ⟨y, hy', r, hr, hin⟩)
    · cases hr
    · obtain ⟨c, hc, e⟩ := hy y hy' r hr
      have := (meet_in hn hm hv (hz c hc).1 zd e).1 hin
      exact ⟨⟨c, hc, this.1⟩, this.2⟩
  · rintro ⟨⟨c, hc, hin⟩, hd⟩
    refine .inr ⟨comY n m c d, List.mem_map.2 ⟨c, hc, rfl⟩, ?_⟩
    have h0 := he _ (List.mem_map.2 ⟨c, hc, rfl⟩)
    unfold comY at h0 ⊢
    cases ho : zoneR n (drf n m (listOf (minR c d) m)) with
    | none => simp only [ho] at h0; exact absurd h0 (by decide)
    | some o =>
      simp only
      exact ⟨o, rfl, (meet_in hn hm hv (hz c hc).1 zd ho).2 ⟨hin, hd⟩⟩
/-! ### Fewer -/
theorem inV_le {n m : Nat} {a b : Row} {V : Nat → Int} {D : Int} (hm : m = (n + 1) * (n + 1)) (hv : Val7 V D) (za : ZC n m a) (zb : ZC n m b) (h : nless a b m = true) (hb : inV n m b V D = true) : inV n m a V D = true := by
  rw [inV_cells hm] at hb ⊢
  intro k hk
  have h1 : RB (a k) := by have := zc_right hm za k; simpa only [rightB, decide_eq_true_eq] using this
  have h2 : RB (b k) := by have := zc_right hm zb k; simpa only [rightB, decide_eq_true_eq] using this
  exact hB_le hv.d h2 h1 ((nless_iff a b m).1 h k hk) (hb k hk)
theorem covK_iff {m : Nat} {cs : List Row} {i : Nat} : ∀ K, covK m cs i K = true ↔ ∃ k, k < K ∧ covS m cs i k = true
  | 0 => ⟨fun h => (by cases h), fun ⟨k, hk, _⟩ => (by omega)⟩
  | K + 1 => by
    show (covK m cs i K || covS m cs i K) = true ↔ _
    rw [Bool.or_eq_true, covK_iff K]
    constructor
    · rintro (⟨k, hk, h⟩ | h)
      · exact ⟨k, by omega, h⟩
      · exact ⟨K, by omega, h⟩
    · rintro ⟨k, hk, h⟩
      by_cases e : k = K
      · subst e; exact .inr h
      · exact .inl ⟨k, by omega, h⟩
theorem fewK_iff {m : Nat} {cs : List Row} {r : Row} : ∀ K, r ∈ fewK m cs K ↔ ∃ k, k < K ∧ covK m cs k cs.length = false ∧ r = atR cs k
  | 0 => ⟨fun h => (by cases h), fun ⟨k, hk, _⟩ => (by omega)⟩
  | K + 1 => by
    show r ∈ (if covK m cs K cs.length = true then fewK m cs K else fewK m cs K ++ [atR cs K]) ↔ _
    by_cases c : covK m cs K cs.length = true
    · rw [if_pos c, fewK_iff K]
      constructor
      · rintro ⟨k, hk, h⟩; exact ⟨k, by omega, h⟩
      · rintro ⟨k, hk, h1, h2⟩
        by_cases e : k = K
        · subst e; rw [c] at h1; cases h1
        · exact ⟨k, by omega, h1, h2⟩
    · rw [if_neg c, List.mem_append, List.mem_singleton, fewK_iff K]
      constructor
      · rintro (⟨k, hk, h⟩ | h)
        · exact ⟨k, by omega, h⟩
        · exact ⟨K, by omega, by simpa using c, h⟩
      · rintro ⟨k, hk, h1, h2⟩
        by_cases e : k = K
        · subst e; exact .inr h2
        · exact .inl ⟨k, by omega, h1, h2⟩
theorem count_lt {p q : Nat → Bool} : ∀ (l : List Nat), (∀ x ∈ l, p x = true → q x = true) → (∃ x ∈ l, q x = true ∧ p x = false) → l.countP p < l.countP q
  | [], _, ⟨x, hx, _⟩ => (by cases hx)
  | a :: l, h, ⟨x, hx, h1, h2⟩ => by
    have hl : ∀ x ∈ l, p x = true → q x = true := fun x hx => h x (List.mem_cons_of_mem _ hx)
    have le : l.countP p ≤ l.countP q := List.countP_mono_left hl
    rw [List.countP_cons, List.countP_cons]
    rcases List.mem_cons.1 hx with e | e
    · subst e
      rw [h1, h2]
      simp
      omega
    · have ih := count_lt l hl ⟨x, e, h1, h2⟩
      have ha := h a List.mem_cons_self
      cases hp : p a with
      | true => rw [ha hp]; simp; exact ih
      | false => cases q a <;> simp <;> omega
def cntK (m : Nat) (cs : List Row) (k : Nat) : Nat := (List.range cs.length).countP fun j => nless (atR cs j) (atR cs k) m
theorem nless_trans {a b c : Row} {m : Nat} (h1 : nless a b m = true) (h2 : nless b c m = true) : nless a c m = true := by
  rw [nless_iff] at *
  exact fun j hj => Int.le_trans (h2 j hj) (h1 j hj)
theorem nless_refl (a : Row) (m : Nat) : nless a a m = true := (nless_iff a a m).2 fun j _ => Int.le_refl _
theorem cov_less {m : Nat} {cs : List Row} {k j : Nat} (hk : k < cs.length) (hj : j < cs.length) (h : covS m cs k j = true) : cntK m cs j < cntK m cs k ∨ (cntK m cs j ≤ cntK m cs k ∧ j < k) := by
  unfold covS at h
  rw [Bool.and_eq_true] at h
  obtain ⟨h1, h2⟩ := h
  have sub : ∀ x ∈ List.range cs.length, nless (atR cs x) (atR cs j) m = true → nless (atR cs x) (atR cs k) m = true := fun x _ hx => nless_trans hx h1
  by_cases hjk : j < k
  · exact .inr ⟨List.countP_mono_left sub, hjk⟩
  · rw [decide_eq_false hjk, Bool.false_or] at h2
    refine .inl (count_lt _ sub ⟨k, List.mem_range.2 hk, nless_refl _ _, by simpa using h2⟩)
theorem kept_ex {n m : Nat} {cs : List Row} {V : Nat → Int} {D : Int} (hm : m = (n + 1) * (n + 1)) (hv : Val7 V D) (hz : ZCs n m cs) : ∀ (N k : Nat), cntK m cs k * (cs.length + 1) + k < N → k < cs.length → inV n m (atR cs k) V D = true → ∃ j, j < cs.length ∧ covK m cs j cs.length = false ∧ inV n m (atR cs j) V D = true
  | 0, k, h, _, _ => (by omega)
  | N + 1, k, h, hk, hin => by
    cases hc : covK m cs k cs.length with
    | false => exact ⟨k, hk, hc, hin⟩
    | true =>
      obtain ⟨j, hj, hs⟩ := (covK_iff _).1 hc
      have l := cov_less hk hj hs
      have h1 : nless (atR cs j) (atR cs k) m = true := by
        unfold covS at hs
        rw [Bool.and_eq_true] at hs
        exact hs.1
      have zj : ZC n m (atR cs j) := by rw [atR_get hj]; exact (hz _ (List.getElem_mem hj)).1
      have zk : ZC n m (atR cs k) := by rw [atR_get hk]; exact (hz _ (List.getElem_mem hk)).1
      refine kept_ex hm hv hz N j ?_ hj (inV_le hm hv zj zk h1 hin)
      rcases l with l | ⟨l, l2⟩
      · have : (cntK m cs j + 1) * (cs.length + 1) ≤ cntK m cs k * (cs.length + 1) := Nat.mul_le_mul_right _ l
        rw [Nat.add_mul, Nat.one_mul] at this
        omega
      · have : cntK m cs j * (cs.length + 1) ≤ cntK m cs k * (cs.length + 1) := Nat.mul_le_mul_right _ l
        omega
theorem few_in {n m : Nat} {cs : List Row} {V : Nat → Int} {D : Int} (hm : m = (n + 1) * (n + 1)) (hv : Val7 V D) (hz : ZCs n m cs) : (∃ r ∈ fewK m cs cs.length, inV n m r V D = true) ↔ ∃ c ∈ cs, inV n m c V D = true := by
  constructor
  · rintro ⟨r, hr, hin⟩
    obtain ⟨k, hk, -, rfl⟩ := (fewK_iff _).1 hr
    rw [atR_get hk] at hin
    exact ⟨_, List.getElem_mem hk, hin⟩
  · rintro ⟨c, hc, hin⟩
    obtain ⟨k, hk, rfl⟩ := List.mem_iff_getElem.1 hc
    obtain ⟨j, hj, h1, h2⟩ := kept_ex hm hv hz _ k (Nat.lt_succ_self _) hk (by rw [atR_get hk]; exact hin)
    exact ⟨_, (fewK_iff _).2 ⟨j, hj, h1, rfl⟩, h2⟩
end Go.Proofs.YtnfkmpickmonoaaGreat
