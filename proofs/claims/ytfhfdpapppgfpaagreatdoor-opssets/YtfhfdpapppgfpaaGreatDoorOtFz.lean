/-
  A struct of four fields, the last one a slice, opened with the slice's weight.
-/
import Derived.Test.YtfhfdpapppgfpaaGreatDoorOmz
import Derived.Test.YtfhfdpapppgfpaaGreatDoorOzz
namespace Go.Proofs.YtfhfdpapppgfpaaGreatDoor
open Go.ChangeShapes Go.WideShapes Go.ChangeAt Go.RowKit Go.Deep
set_option linter.unusedVariables false
theorem open_fieldsW {H : Type} {enc : TypeId × Value → H} {P : Program} {w : World} {r : Reach} {b0 base : Nat} {spare : Nat → Bool} {held : Bool} {t : TypeId} {fs : Array Field} {v : Value} {d : DataW H} {p : List MemPlace}
    (hs : P.underlying t = some (.struct fs)) (hone : oneCellFields P fs = true) (hv : Value.okWide P w r b0 t v) (h : DataW.Trod enc P w base spare held t v d p) (hw : ∀ n ∈ d.weights P t, n ≤ reachBytes) :
    ∃ (cs : Array Value) (n : Nat), v = .agg cs ∧ cs.size = P.cellsOf t ∧ ∀ (i : Nat) f u, fs[i]? = some f → cs[i]? = some u → ∃ y, DataW.trod enc P w base spare held n f.type [u] = some y ∧ ∀ n ∈ y.1.weights P f.type, n ≤ reachBytes := by
  obtain ⟨cs, rfl, hsz⟩ := okWide_struct hs hv
  obtain ⟨fuel, hf⟩ := h
  obtain ⟨xs, n, _, hx, hl, hlen, hf⟩ := DataW.trod_struct hs hf
  refine ⟨cs, n, rfl, hsz, fun i f u hi hu => ?_⟩
  obtain ⟨o1, k1⟩ := hone_of hone i f hi
  have h1 := hf i f hi
  have hlt : i < cs.toList.length := by
    have := Array.getElem?_eq_some_iff.1 hu
    obtain ⟨h, _⟩ := this
    simpa using h
  have e1 : List.take 1 (List.drop i (Value.agg cs).cells.toList) = [u] := by
    simp only [Value.cells]
    rw [List.drop_eq_getElem_cons hlt]
    have : cs.toList[i] = u := by
      obtain ⟨h, e⟩ := Array.getElem?_eq_some_iff.1 hu
      simpa using e
    rw [this]
    rfl
  rw [o1, k1, e1] at h1
  obtain ⟨y, hy⟩ : ∃ y, xs[i]? = some y := ⟨_, List.getElem?_eq_getElem (by have := (Array.getElem?_eq_some_iff.1 hi).1; omega)⟩
  rw [hy] at h1
  refine ⟨y, h1, fun k hk => hw k ?_⟩
  have ed : d = .agg (xs.map (·.1)) := congrArg Prod.fst hx
  rw [ed]
  simp only [DataW.weights, hs]
  exact DataW.weights_mem_each (j := i) (t := f.type) (d := y.1) (by rw [List.getElem?_map, Array.getElem?_toList, hi]; rfl) (by rw [List.getElem?_map, hy]; rfl) k hk
theorem four {α : Type} {cs : Array α} (h : cs.size = 4) : ∃ a b c d, cs = #[a, b, c, d] := by
  obtain ⟨l⟩ := cs
  match l, h with
  | [a, b, c, d], _ => exact ⟨a, b, c, d, rfl⟩
theorem open_agg4W {H : Type} {enc : TypeId × Value → H} {P : Program} {w : World} {r : Reach} {b0 base : Nat} {spare : Nat → Bool} {held : Bool} {t : TypeId} {f0 f1 f2 f3 : Field} {v : Value} {d : DataW H} {p : List MemPlace}
    (hs : P.underlying t = some (.struct #[f0, f1, f2, f3])) (hone : oneCellFields P #[f0, f1, f2, f3] = true) (hC : P.cellsOf t = 4) (hv : Value.okWide P w r b0 t v) (h : DataW.Trod enc P w base spare held t v d p) (hw : ∀ n ∈ d.weights P t, n ≤ reachBytes) :
    ∃ (a b c e : Value) (y0 y1 y2 y3 : DataW H × List MemPlace) (n : Nat), v = .agg #[a, b, c, e] ∧ DataW.trod enc P w base spare held n f0.type [a] = some y0 ∧ DataW.trod enc P w base spare held n f1.type [b] = some y1 ∧ DataW.trod enc P w base spare held n f2.type [c] = some y2 ∧ DataW.trod enc P w base spare held n f3.type [e] = some y3 ∧ ∀ n ∈ y3.1.weights P f3.type, n ≤ reachBytes := by
  obtain ⟨cs, n, rfl, hsz, hf⟩ := open_fieldsW hs hone hv h hw
  obtain ⟨a, b, c, e, rfl⟩ := four (hsz.trans hC)
  obtain ⟨y0, h0, -⟩ := hf 0 f0 a rfl rfl
  obtain ⟨y1, h1, -⟩ := hf 1 f1 b rfl rfl
  obtain ⟨y2, h2, -⟩ := hf 2 f2 c rfl rfl
  obtain ⟨y3, h3, k3⟩ := hf 3 f3 e rfl rfl
  exact ⟨a, b, c, e, y0, y1, y2, y3, n, rfl, h0, h1, h2, h3, k3⟩
end Go.Proofs.YtfhfdpapppgfpaaGreatDoor
