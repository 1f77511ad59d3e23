/-
  The valuation and the guards inside what OpsPoints is handed, opened.
-/
import Derived.Test.YtfffcmelkdmjaaaDoorZp
import Derived.Test.YtfffcmelkdmjaaaDoorSg4z
import Derived.Test.YtfffcmelkdmjaaaDoorOmz
import Derived.Test.YtfffcmelkdmjaaaDoorOzz
namespace Go.Proofs.YtfffcmelkdmjaaaDoor
open Go.ChangeShapes Go.WideShapes Go.ChangeAt Go.RowKit Go.Deep
set_option linter.unusedVariables false
theorem open_hs {H : Type} {enc : TypeId × Value → H} {P : Program} {w : World} {base : Nat} {spare : Nat → Bool} {held : Bool} {fuel : Nat} {t e : TypeId} {v : Value} {x : DataW H × List MemPlace}
    (ht : P.underlying t = some (.slice e)) (he : P.underlying e = some (.int .u16)) (hc : P.cellsOf e = 1) (h : DataW.trod enc P w base spare held fuel t [v] = some x) : ∃ l : List Int, U16At w v l ∧ (∀ z ∈ l, (Lit.int .u16 z).wf = true) ∧ l.length ≤ 9223372036854775807 := by
  rcases open_ints ht he hc h with ⟨hcs, _⟩ | ⟨a, len, cap, zs, hcs, _, hl, hm, hz, hx, hcell, hwz⟩
  · simp at hcs
    exact ⟨[], .inl ⟨_, _, hcs, rfl⟩, by simp, by simp⟩
  · simp at hcs
    subst hcs
    have hlz : len ≤ zs.length := by rw [hz]; split <;> omega
    have tl : (zs.take len).length = len := by simp; omega
    refine ⟨zs.take len, ?_, fun z hz' => hwz z (List.mem_of_mem_take hz'), by rw [tl]; unfold maxLen at hm; omega⟩
    by_cases hp : 0 < len
    · obtain ⟨bk, off, rfl, hc⟩ := ints_at hcell (by omega)
      refine .inr ⟨bk, off, cap, by rw [tl], fun j hj => ?_⟩
      rw [tl] at hj
      rw [hc j (by omega)]
      simp [List.getD, hj]
    · obtain rfl : len = 0 := by omega
      exact .inl ⟨_, _, rfl, by simp⟩
theorem open_fieldsW {H : Type} {enc : TypeId × Value → H} {P : Program} {w : World} {r : Reach} {b0 base : Nat} {spare : Nat → Bool} {held : Bool} {t : TypeId} {fs : Array Field} {v : Value} {d : DataW H} {p : List MemPlace}
    (hs : P.underlying t = some (.struct fs)) (hone : oneCellFields P fs = true) (hv : Value.okWide P w r b0 t v) (h : DataW.Trod enc P w base spare held t v d p) (hw : ∀ n ∈ d.weights P t, n ≤ reachBytes) :
    ∃ (cs : Array Value) (n : Nat), v = .agg cs ∧ cs.size = P.cellsOf t ∧ ∀ (i : Nat) f u, fs[i]? = some f → cs[i]? = some u → ∃ y, DataW.trod enc P w base spare held n f.type [u] = some y ∧ ∀ n ∈ y.1.weights P f.type, n ≤ reachBytes := by
  obtain ⟨cs, rfl, hsz⟩ := okWide_struct hs hv
  obtain ⟨fuel, hf⟩ := h
  obtain ⟨xs, n, _, hx, hl, hlen, hf⟩ := DataW.trod_struct hs hf
  refine ⟨cs, n, rfl, hsz, fun i f u hi hu => ?_⟩
  obtain ⟨o1, k1⟩ := hone_of hone i f hi
  have h1 := hf i f hi
  have hlt : i < cs.toList.length := by
    have := Array.getElem?_eq_some_iff.1 hu
    obtain ⟨h, _⟩ := this
    simpa using h
  have e1 : List.take 1 (List.drop i (Value.agg cs).cells.toList) = [u] := by
    simp only [Value.cells]
    rw [List.drop_eq_getElem_cons hlt]
    have : cs.toList[i] = u := by
      obtain ⟨h, e⟩ := Array.getElem?_eq_some_iff.1 hu
      simpa using e
    rw [this]
    rfl
  rw [o1, k1, e1] at h1
  obtain ⟨y, hy⟩ : ∃ y, xs[i]? = some y := ⟨_, List.getElem?_eq_getElem (by have := (Array.getElem?_eq_some_iff.1 hi).1; omega)⟩
  rw [hy] at h1
  refine ⟨y, h1, fun k hk => hw k ?_⟩
  have ed : d = .agg (xs.map (·.1)) := congrArg Prod.fst hx
  rw [ed]
  simp only [DataW.weights, hs]
  exact DataW.weights_mem_each (j := i) (t := f.type) (d := y.1) (by rw [List.getElem?_map, Array.getElem?_toList, hi]; rfl) (by rw [List.getElem?_map, hy]; rfl) k hk
theorem open_agg5W {H : Type} {enc : TypeId × Value → H} {P : Program} {w : World} {r : Reach} {b0 base : Nat} {spare : Nat → Bool} {held : Bool} {t : TypeId} {f0 f1 f2 f3 f4 : Field} {v : Value} {d : DataW H} {p : List MemPlace}
    (hs : P.underlying t = some (.struct #[f0, f1, f2, f3, f4])) (hone : oneCellFields P #[f0, f1, f2, f3, f4] = true) (hC : P.cellsOf t = 5) (hv : Value.okWide P w r b0 t v) (h : DataW.Trod enc P w base spare held t v d p) (hw : ∀ n ∈ d.weights P t, n ≤ reachBytes) :
    ∃ (a b c e g : Value) (y0 y1 y2 y3 y4 : DataW H × List MemPlace) (n : Nat), v = .agg #[a, b, c, e, g] ∧ DataW.trod enc P w base spare held n f0.type [a] = some y0 ∧ DataW.trod enc P w base spare held n f1.type [b] = some y1 ∧ DataW.trod enc P w base spare held n f2.type [c] = some y2 ∧ DataW.trod enc P w base spare held n f3.type [e] = some y3 ∧ DataW.trod enc P w base spare held n f4.type [g] = some y4 ∧ ∀ n ∈ y4.1.weights P f4.type, n ≤ reachBytes := by
  obtain ⟨cs, n, rfl, hsz, hf⟩ := open_fieldsW hs hone hv h hw
  obtain ⟨a, b, c, e, g, rfl⟩ := five (hsz.trans hC)
  obtain ⟨y0, h0, -⟩ := hf 0 f0 a rfl rfl
  obtain ⟨y1, h1, -⟩ := hf 1 f1 b rfl rfl
  obtain ⟨y2, h2, -⟩ := hf 2 f2 c rfl rfl
  obtain ⟨y3, h3, -⟩ := hf 3 f3 e rfl rfl
  obtain ⟨y4, h4, k4⟩ := hf 4 f4 g rfl rfl
  exact ⟨a, b, c, e, g, y0, y1, y2, y3, y4, n, rfl, h0, h1, h2, h3, h4, k4⟩
theorem open_guaV {H : Type} {enc : TypeId × Value → H} {w : World} {base : Nat} {spare : Nat → Bool} {held : Bool} {fuel : Nat} {v : Value} {x : DataW H × List MemPlace}
    (h : DataW.trod enc Tryd.prog w base spare held fuel 41 [v] = some x) (hw : ∀ n ∈ x.1.weights Tryd.prog 41, n ≤ reachBytes) :
    ∃ L : Guas, GuaS w v L ∧ (∀ k, k < L.q → 0 ≤ L.k k ∧ L.k k < 256) ∧ L.q * 32 ≤ 140737488355328 := by
  obtain ⟨ad, len, cap, rfl⟩ : ∃ ad len cap, v = .slice ad len cap := by
    rcases open_slice Tryd.underlying41 h with ⟨h0, _⟩ | ⟨a, len', cap', m, n, D, Pl, h0, _⟩
    · simp at h0; exact ⟨_, _, _, h0⟩
    · simp at h0; exact ⟨_, _, _, h0⟩
  obtain ⟨L, h1, h2, h3, h4⟩ := open_guas (ad := ad) (len := len) (cap := cap) h
  refine ⟨L, ⟨ad, cap, by rw [h1], h2⟩, h3, ?_⟩
  rcases h4 with h4 | ⟨ds, ss, hx, hds⟩
  · omega
  · have hb : Tryd.prog.bytesOf 50 = 32 := by kernel_rfl
    have := hw ((ds.length + ss.length) * Tryd.prog.bytesOf 50) (by rw [hx]; simp only [DataW.weights, Tryd.underlying41]; exact List.mem_cons_self)
    rw [hb, hds] at this
    have hr : reachBytes ≤ 140737488355328 := by decide
    omega
end Go.Proofs.YtfffcmelkdmjaaaDoor
