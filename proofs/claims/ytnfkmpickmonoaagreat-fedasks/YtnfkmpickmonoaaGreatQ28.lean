/-
  fed: a union of the document's that grows; Minus by the document.
-/
import Derived.Test.YtnfkmpickmonoaaGreatQ27
import Derived.Test.YtnfkmpickmonoaaGreatQ21
namespace Go.Proofs.YtnfkmpickmonoaaGreat
open Go.RowKit Go.Shelf
set_option linter.unusedVariables false
set_option maxRecDepth 100000
attribute [local go_sem] Oper.semAt_some
/-- Append of a row that may be nil, to a row that is nil where it is empty. -/
theorem wp_app8 {P : Program} (w : World) {ops : Array Oper} {rest : List Oper} {o : Oper} {a : Act} {Q : Exit → Act → World → Prop} (hgd : o.guard = none) (s x : Operand) (t : TypeId)
    (ho : o.op = .call { callee := .builtin .append, args := #[s, x], argTypes := #[t, t] })
    (base : Nat) (e : TypeId) (i : TypeInfo) (z : Value) (size bytes : Nat) (ht : P.underlying t = some (.slice e)) (hi : P.info? e = some i) (hz : i.zero = some z)
    (hsize : i.size = size) (hby : i.bytes = bytes) (hzs : z.cells.size = size) (hsz : 0 < size)
    (v : Value) (n : Nat) (xs : List Value) (hs : a.eval s = v) (hown : w.ownsRow base e size v n xs) (h0 : n = 0 → v = .slice none 0 0)
    (ad : Option Addr) (m c : Nat) (news : List Value) (hx : a.eval x = .slice ad m c) (hnil : ad = none → m = 0 ∧ c = 0) (hl : news.length = m * size) (hnews : ∀ d, ad = some d → ∀ j u, news[j]? = some u → w.cell? (d.add j) = some u) (h1 : ∀ u ∈ news, u.oneCell' = true)
    (h63 : n + m ≤ maxLen) (hbytes : (n + m) * bytes ≤ 140737488355328) (hbase : base ≤ w.heap.size)
    (h : ∀ v' w', w'.ownsRow base e size v' (n + m) (xs ++ news) → w.grownBy w' v.ownBlock → (n + m = 0 → v' = .slice none 0 0) → wpList P ops Q rest (a.put o.dst v') w') : wpList P ops Q (o :: rest) a w := by
  cases ad with
  | none =>
    obtain ⟨rfl, rfl⟩ := hnil rfl
    have e0 : news = [] := List.eq_nil_of_length_eq_zero (by simpa using hl)
    subst e0
    exact wpList_append_own_none hgd s x t ho base e i size ht hi v n xs hs hown hx (h v w (by simpa using hown) ⟨rfl, rfl, rfl, Nat.le_refl _, fun k hk hne => rfl⟩ (fun q => h0 (by omega)))
  | some d => exact wpList_append_own w hgd s x t ho base e i z size bytes ht hi hz hsize hby hzs hsz v n xs hs hown d m c news hx hl (hnews d rfl) h1 h63 hbytes hbase fun v' w' h2 h3 h4 => h v' w' h2 h3 (fun q => h4.2 ⟨h0 (by omega), by omega⟩)
/-- A union of the document's that grows. -/
structure RG (n m : Nat) (cs : List Row) (v : Value) (w W : World) : Prop where
  dr : DR w.heap.size n m cs v w W
  c0 : W.cell? ⟨w.heap.size, 0, none⟩ = some (.int .i64 (n : Int))
  c1 : W.cell? ⟨w.heap.size, 1, none⟩ = some v
  fr : W.frozen? ⟨w.heap.size, 1, none⟩ = false
theorem RG.start2 (n m : Nat) {w A : World} (hA : Below w.heap.size w A) (hs : A.heap.size = w.heap.size) : RG n m [] (.slice none 0 0) w (A.alloc (.cells #[.int .i64 (n : Int), .slice none 0 0] 69)) :=
  ⟨⟨⟨[], World.ownsRow_nil _ _ _ _, fun _ => rfl, rfl, fun e he => (by cases he)⟩, fun c hc => (by cases hc), hA.trans ((below_one _ _).mono (by omega))⟩, by rw [← hs]; simp [go_sem], by rw [← hs]; simp [go_sem], by rw [← hs]; simp [go_sem]⟩
theorem RG.past {n m : Nat} {cs : List Row} {v : Value} {w A B : World} (h : RG n m cs v w A) (hb : Below A.heap.size A B) : RG n m cs v w B :=
  ⟨h.dr.past hb h.dr.below.size, kc _ _ hb h.c0, kc _ _ hb h.c1, kf _ _ hb h.c1 h.fr⟩
/-- What is appended: a row that can be read. -/
structure NR (n m : Nat) (ds : List Row) (u : Value) (W : World) : Prop where
  rs : ∃ (ad : Option Addr) (q cap : Nat) (rs : List RZR), u = .slice ad q cap ∧ q = rs.length ∧ (ad = none → q = 0 ∧ cap = 0) ∧ (∀ d, ad = some d → ∀ (j : Nat) (x : Value), (rs.map pvR7)[j]? = some x → W.cell? (d.add j) = some x) ∧ rs.map (·.2) = ds.map (fun c => listOf c m) ∧ ∀ e ∈ rs, RZone W 0 e.1 n e.2
  ok : ∀ c ∈ ds, ZC n m c ∧ ¬ c 0 < 1
theorem DR.row {H n m : Nat} {cs : List Row} {v : Value} {w W : World} (h : DR H n m cs v w W) : NR n m cs v W := by
  obtain ⟨⟨rs, h1, h2, h3, h4⟩, h5, -⟩ := h
  rcases own_at h1 with ⟨e1, e2⟩ | ⟨g, cap, e1, -, -, hc⟩
  · exact ⟨⟨none, 0, 0, rs, e1, e2.symm, fun _ => ⟨rfl, rfl⟩, fun d hd => (by cases hd), h3, h4⟩, h5⟩
  · refine ⟨⟨some ⟨g, 0, none⟩, rs.length, cap, rs, e1, rfl, fun h => (by cases h), fun d hd j x hx => ?_, h3, h4⟩, h5⟩
    injection hd with hd
    subst hd
    rw [Addr.add_lit]
    have hj : j < rs.length := by
      by_cases q : j < rs.length
      · exact q
      · rw [List.getElem?_eq_none (by simpa using q)] at hx
        cases hx
    have := hc j x hj hx
    simpa using this
theorem RG.more {n m : Nat} {cs ds : List Row} {v v' : Value} {w A W : World} {rs es : List RZR} (hm : 0 < m) (h : RG n m cs v w A) (h1 : A.ownsRow w.heap.size 44 1 v rs.length (rs.map pvR7)) (h2 : rs.length = 0 → v = .slice none 0 0) (h3 : rs.map (·.2) = cs.map (fun c => listOf c m)) (h4 : ∀ e ∈ rs, RZone A 0 e.1 n e.2)
    (k3 : es.map (·.2) = ds.map (fun c => listOf c m)) (k4 : ∀ e ∈ es, RZone A 0 e.1 n e.2) (k5 : ∀ c ∈ ds, ZC n m c ∧ ¬ c 0 < 1)
    (hown : W.ownsRow w.heap.size 44 1 v' (rs.length + es.length) (rs.map pvR7 ++ es.map pvR7)) (hgr : A.grownBy W v.ownBlock) (hnil : rs.length + es.length = 0 → v' = .slice none 0 0) :
    (∃ u, W.cell? ⟨w.heap.size, 1, none⟩ = some u) ∧ W.frozen? ⟨w.heap.size, 1, none⟩ = false ∧ RG n m (cs ++ ds) v' w (W.setCell ⟨w.heap.size, 1, none⟩ v') := by
  have P := own_ptr h1 pr_ptr h2
  have ow : ∀ k, v.ownBlock = some k → w.heap.size ≤ k := fun k e => (own_blk h1 e).1
  have b2 : Below w.heap.size w W := h.dr.below.grown hgr h.dr.below.size ow
  have ne0 : v.ownBlock ≠ some w.heap.size := fun e => by
    obtain ⟨p, q⟩ := P _ e
    rw [h.c0] at q
    cases q
  have c0 := grown_cell hgr h.c0 ne0
  have c1 := grown_cell hgr h.c1 ne0
  have fr := grown_frozen hgr h.c1 h.fr ne0
  have P2 : PtrX v'.ownBlock W := own_ptr hown (fun u hu => by
    rcases List.mem_append.1 hu with q | q
    · exact pr_ptr u q
    · exact pr_ptr u q) hnil
  have ne : v'.ownBlock ≠ some w.heap.size := fun e => by
    obtain ⟨p, q⟩ := P2 _ e
    rw [c0] at q
    cases q
  have K : ∀ b n' l, 0 < l.length → RZone A 0 b n' l → RZone (W.setCell ⟨w.heap.size, 1, none⟩ v') 0 b n' l := fun b n' l hl hz => by
    obtain ⟨g, cap, e1, e2, -, -, e5⟩ := hz
    have e0 := e5 0 hl
    rw [Nat.zero_add] at e0
    have nb : b ≠ w.heap.size := fun e => by
      subst e
      rw [h.c1] at e2
      injection e2 with e2
      obtain ⟨p, q⟩ := P g (by rw [e2]; rfl)
      rw [e0] at q
      cases q
    have ng : g ≠ w.heap.size := fun e => by
      subst e
      rw [h.c0] at e0
      injection e0 with e0
      injection e0 with e0
      cases e0
    have S := SameC.grown7 hgr
    have n1 : some b ≠ v.ownBlock := fun e => by
      obtain ⟨p, q⟩ := P b e.symm
      rw [e1] at q
      cases q
    have n2 : some g ≠ v.ownBlock := fun e => by
      obtain ⟨p, q⟩ := P g e.symm
      rw [e0] at q
      cases q
    have st : ∀ (x k : Nat) (y : Value), x ≠ w.heap.size → W.cell? ⟨x, k, none⟩ = some y → (W.setCell ⟨w.heap.size, 1, none⟩ v').cell? ⟨x, k, none⟩ = some y := fun x k y hx hc => by
      rw [World.cell?_setCell_other _ _ _ _ (by intro e; injection e; omega)]
      exact hc
    exact ⟨g, cap, st _ _ _ nb (S.cell e1 n1), st _ _ _ nb (S.cell e2 n1), Nat.zero_le _, Nat.zero_le _, fun j hj => st _ _ _ ng (S.cell (e5 j hj) n2)⟩
  refine ⟨⟨_, c1⟩, fr, ⟨⟨⟨rs ++ es, ?_, fun h => ?_, ?_, fun e he => ?_⟩, fun x hx => ?_, b2.setCell (p := ⟨w.heap.size, 1, none⟩) (Nat.le_refl _) _⟩, ?_, World.cell?_setCell_same _ _ _ c1, by rw [World.frozen?_setCell]; exact fr⟩⟩
  · rw [List.length_append, List.map_append]
    exact World.ownsRow.kept hown (grown_set _ _ _) (.inr ne)
  · rw [List.length_append] at h
    exact hnil h
  · rw [List.map_append, List.map_append, h3, k3]
  · rcases List.mem_append.1 he with q | q
    · exact K _ _ _ (rs_cell hm h3 q) (h4 e q)
    · exact K _ _ _ (rs_cell hm k3 q) (k4 e q)
  · rcases List.mem_append.1 hx with q | q
    · exact h.dr.ok x q
    · exact k5 x q
  · rw [World.cell?_setCell_other _ _ _ _ (by intro e; injection e; omega)]
    exact c0
end Go.Proofs.YtnfkmpickmonoaaGreat
