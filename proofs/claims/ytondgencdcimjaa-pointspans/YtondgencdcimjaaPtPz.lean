/-
  What PointSpans and its like are handed: a valuation, a delay, two numbers and guards, opened.
-/
import Derived.Test.YtondgencdcimjaaPtOz
namespace Go.Proofs.Ytondgencdcimjaa
open Go.RowKit Go.Shelf
open Go.ChangeShapes Go.WideShapes Go.ChangeAt Go.Deep
set_option linter.unusedVariables false
theorem six_of {α : Type} {cs : Array α} (h : cs.size = 6) : ∃ a b c d e f, cs = #[a, b, c, d, e, f] := by
  obtain ⟨l⟩ := cs
  match l, h with
  | [a, b, c, d, e, f], _ => exact ⟨a, b, c, d, e, f, rfl⟩
theorem wts_one {H : Type} {P : Program} {ts : List TypeId} {ds : List (DataW H)} (h : (DataW.weightsEach P ts ds).all (· ≤ reachBytes) = true) {j : Nat} {t : TypeId} {d : DataW H} (ht : ts[j]? = some t) (hd : ds[j]? = some d) : ∀ n ∈ d.weights P t, n ≤ reachBytes := fun n hn => of_decide_eq_true (List.all_eq_true.1 h _ (DataW.weights_mem_each ht hd n hn))
theorem open_moved {H : Type} {enc : TypeId × Value → H} {P : Program} {w : World} {r : Reach} {b0 base : Nat} {spare : Nat → Bool} {held : Bool} {t : TypeId} {f0 f1 f2 f3 f4 q0 q1 : Field} {v : Value} {d : DataW H} {p : List MemPlace}
    (hs : P.underlying t = some (.struct #[f0, f1, f2, f3, f4])) (hC : P.cellsOf t = 6) (o0 : f0.offset = 0) (o1 : f1.offset = 1) (o2 : f2.offset = 3) (o3 : f3.offset = 4) (o4 : f4.offset = 5)
    (c0 : P.cellsOf f0.type = 1) (c1 : P.cellsOf f1.type = 2) (c2 : P.cellsOf f2.type = 1) (c3 : P.cellsOf f3.type = 1) (c4 : P.cellsOf f4.type = 1) (u2 : P.underlying f2.type = some (.int .i64)) (u3 : P.underlying f3.type = some (.int .i64))
    (hD : P.underlying f1.type = some (.struct #[q0, q1])) (p0 : q0.offset = 0) (p1 : q1.offset = 1) (k0 : P.cellsOf q0.type = 1) (k1 : P.cellsOf q1.type = 1) (v0 : P.underlying q0.type = some (.int .i64)) (v1 : P.underlying q1.type = some (.int .i64))
    (hv : Value.okWide P w r b0 t v) (h : DataW.Trod enc P w base spare held t v d p) (hw : ∀ n ∈ d.weights P t, n ≤ reachBytes) :
    ∃ (a g : Value) (dn dd ck nn : Int) (y0 y4 : DataW H × List MemPlace) (n : Nat), v = .agg #[a, .int .i64 dn, .int .i64 dd, .int .i64 ck, .int .i64 nn, g] ∧ (Lit.int .i64 dn).wf = true ∧ (Lit.int .i64 dd).wf = true ∧ (Lit.int .i64 ck).wf = true ∧ (Lit.int .i64 nn).wf = true ∧
      DataW.trod enc P w base spare held n f0.type [a] = some y0 ∧ (∀ n ∈ y0.1.weights P f0.type, n ≤ reachBytes) ∧ DataW.trod enc P w base spare held n f4.type [g] = some y4 ∧ (∀ n ∈ y4.1.weights P f4.type, n ≤ reachBytes) := by
  obtain ⟨cs, rfl, hsz⟩ := okWide_struct hs hv
  obtain ⟨fuel, hf⟩ := h
  obtain ⟨xs, n, _, hx, hl, hlen, hf⟩ := DataW.trod_struct hs hf
  obtain ⟨a, b, c, e, f, g, rfl⟩ := six_of (hsz.trans hC)
  have ed : d = .agg (xs.map (·.1)) := congrArg Prod.fst hx
  have wt : ∀ (i : Nat) fi y, (#[f0, f1, f2, f3, f4] : Array Field)[i]? = some fi → xs[i]? = some y → ∀ k ∈ y.1.weights P fi.type, k ≤ reachBytes := fun i fi y hi hy k hk => hw k (by
    rw [ed]
    simp only [DataW.weights, hs]
    exact DataW.weights_mem_each (j := i) (t := fi.type) (d := y.1) (by rw [List.getElem?_map, Array.getElem?_toList, hi]; rfl) (by rw [List.getElem?_map, hy]; rfl) k hk)
  have ex : ∀ i, i < 5 → ∃ y, xs[i]? = some y := fun i hi => ⟨_, List.getElem?_eq_getElem (by rw [hlen]; exact hi)⟩
  obtain ⟨y0, hy0⟩ := ex 0 (by omega)
  obtain ⟨y1, hy1⟩ := ex 1 (by omega)
  obtain ⟨y2, hy2⟩ := ex 2 (by omega)
  obtain ⟨y3, hy3⟩ := ex 3 (by omega)
  obtain ⟨y4, hy4⟩ := ex 4 (by omega)
  have g0 := hf 0 f0 rfl
  have g1 := hf 1 f1 rfl
  have g2 := hf 2 f2 rfl
  have g3 := hf 3 f3 rfl
  have g4 := hf 4 f4 rfl
  rw [o0, c0, hy0] at g0
  rw [o1, c1, hy1] at g1
  rw [o2, c2, hy2] at g2
  rw [o3, c3, hy3] at g3
  rw [o4, c4, hy4] at g4
  obtain ⟨z0, z1, k, -, -, i0, i1⟩ := trod_struct2 hD g1
  simp [Value.cells, p0, p1, k0, k1] at g0 g2 g3 g4 i0 i1
  obtain ⟨m0, e0, _, wf0⟩ := DataW.trod_int v0 i0
  obtain ⟨m1, e1, _, wf1⟩ := DataW.trod_int v1 i1
  obtain ⟨m2, e2, _, wf2⟩ := DataW.trod_int u2 g2
  obtain ⟨m3, e3, _, wf3⟩ := DataW.trod_int u3 g3
  simp at e0 e1 e2 e3
  subst e0 e1 e2 e3
  exact ⟨a, g, m0, m1, m2, m3, y0, y4, n, rfl, wf0, wf1, wf2, wf3, g0, wt 0 f0 y0 rfl hy0, g4, wt 4 f4 y4 rfl hy4⟩
theorem open_ratsW {H : Type} {enc : TypeId × Value → H} {P : Program} {w : World} {base : Nat} {spare : Nat → Bool} {held : Bool} {t e : TypeId} {f0 f1 : Field} {fuel : Nat} {v : Value} {x : DataW H × List MemPlace}
    (ht : P.underlying t = some (.slice e)) (he : P.underlying e = some (.struct #[f0, f1])) (ce : P.cellsOf e = 2) (o0 : f0.offset = 0) (o1 : f1.offset = 1) (c0 : P.cellsOf f0.type = 1) (c1 : P.cellsOf f1.type = 1)
    (u0 : P.underlying f0.type = some (.int .i64)) (u1 : P.underlying f1.type = some (.int .i64)) (be : P.bytesOf e = 16) (h : DataW.trod enc P w base spare held fuel t [v] = some x) (hw : ∀ n ∈ x.1.weights P t, n ≤ reachBytes) :
    ∃ L : Rats, RatS w v L ∧ (∀ k, k < L.q → (Lit.int .i64 (L.n k)).wf = true ∧ (Lit.int .i64 (L.d k)).wf = true) ∧ L.q * 16 ≤ 140737488355328 := by
  rcases open_rats ht he ce o0 o1 c0 c1 u0 u1 h with hcs | ⟨a, len, cap, ds, ss, L, hcs, hq, hds, hx, hc⟩
  · simp at hcs
    subst hcs
    exact ⟨⟨0, fun _ => 0, fun _ => 0⟩, ⟨_, _, rfl, fun _ => ⟨rfl, rfl⟩, fun k hk => absurd hk (Nat.not_lt_zero _)⟩, fun k hk => absurd hk (Nat.not_lt_zero _), by decide⟩
  · simp at hcs
    subst hcs
    have hs := hw ((ds.length + ss.length) * P.bytesOf e) (by rw [hx]; simp only [DataW.weights, ht]; exact List.mem_cons_self)
    rw [be, hds] at hs
    have hr : reachBytes ≤ 140737488355328 := by decide
    refine ⟨L, ⟨some a, cap, by rw [hq], fun h => (by cases h), fun k hk => ?_⟩, fun k hk => (hc k (by omega)).2.2, by omega⟩
    obtain ⟨bk, off, spot⟩ := a
    obtain ⟨a1, a2, _, _⟩ := hc k (by omega)
    have hspot : spot = none := by simpa [Addr.add] using World.cell?_spot (hc 0 (by omega)).1
    subst hspot
    rw [Go.WideShapes.add_plain] at a1 a2
    exact ⟨bk, off, rfl, a1, by rw [Nat.add_assoc]; exact a2⟩
end Go.Proofs.Ytondgencdcimjaa
