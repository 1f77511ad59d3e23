/-
  Slices of whole numbers inside what is handed over, opened.
-/
import Derived.Test.YtfhfdpapppgfpaaGreatDoorZe
import Derived.Deep.Slices
import Derived.ProofKit
import Derived.OpenShut
import Derived.Lib.SmallJoins
namespace Go.Proofs.YtfhfdpapppgfpaaGreatDoor
open Go.ChangeShapes Go.WideShapes Go.ChangeAt Go.RowKit Go.Deep
set_option linter.unusedVariables false
theorem open_is {H : Type} {enc : TypeId × Value → H} {P : Program} {w : World} {base : Nat} {spare : Nat → Bool} {held : Bool} {fuel : Nat} {t e : TypeId} {v : Value} {x : DataW H × List MemPlace}
    (ht : P.underlying t = some (.slice e)) (he : P.underlying e = some (.int .i64)) (hc : P.cellsOf e = 1) (h : DataW.trod enc P w base spare held fuel t [v] = some x) : ∃ l : List Int, IntsAt w v l ∧ (∀ z ∈ l, (Lit.int .i64 z).wf = true) ∧ l.length ≤ 9223372036854775807 := by
  rcases open_ints ht he hc h with ⟨hcs, _⟩ | ⟨a, len, cap, zs, hcs, _, hl, hm, hz, hx, hcell, hwz⟩
  · simp at hcs
    exact ⟨[], .inl ⟨_, _, hcs, rfl⟩, by simp, by simp⟩
  · simp at hcs
    subst hcs
    have hlz : len ≤ zs.length := by rw [hz]; split <;> omega
    have tl : (zs.take len).length = len := by simp; omega
    refine ⟨zs.take len, ?_, fun z hz' => hwz z (List.mem_of_mem_take hz'), by rw [tl]; unfold maxLen at hm; omega⟩
    by_cases hp : 0 < len
    · obtain ⟨bk, off, rfl, hc⟩ := ints_at hcell (by omega)
      refine .inr ⟨bk, off, cap, by rw [tl], fun j hj => ?_⟩
      rw [tl] at hj
      rw [hc j (by omega)]
      simp [List.getD, hj]
    · obtain rfl : len = 0 := by omega
      exact .inl ⟨_, _, rfl, by simp⟩
theorem five {α : Type} {cs : Array α} (h : cs.size = 5) : ∃ a b c d e, cs = #[a, b, c, d, e] := by
  obtain ⟨l⟩ := cs
  match l, h with
  | [a, b, c, d, e], _ => exact ⟨a, b, c, d, e, rfl⟩
/-- A struct of fields of one cell each, by value: each field's cell and its reading. -/
theorem open_fields {H : Type} {enc : TypeId × Value → H} {P : Program} {w : World} {r : Reach} {b0 base : Nat} {spare : Nat → Bool} {held : Bool} {t : TypeId} {fs : Array Field} {v : Value} {d : DataW H} {p : List MemPlace}
    (hs : P.underlying t = some (.struct fs)) (hone : oneCellFields P fs = true) (hv : Value.okWide P w r b0 t v) (h : DataW.Trod enc P w base spare held t v d p) :
    ∃ (cs : Array Value) (n : Nat), v = .agg cs ∧ cs.size = P.cellsOf t ∧ ∀ (i : Nat) f u, fs[i]? = some f → cs[i]? = some u → ∃ y, DataW.trod enc P w base spare held n f.type [u] = some y := by
  obtain ⟨cs, rfl, hsz⟩ := okWide_struct hs hv
  obtain ⟨fuel, hf⟩ := h
  obtain ⟨xs, n, _, _, hl, hlen, hf⟩ := DataW.trod_struct hs hf
  refine ⟨cs, n, rfl, hsz, fun i f u hi hu => ?_⟩
  obtain ⟨o1, k1⟩ := hone_of hone i f hi
  have h1 := hf i f hi
  have hlt : i < cs.toList.length := by
    have := Array.getElem?_eq_some_iff.1 hu
    obtain ⟨h, _⟩ := this
    simpa using h
  have e1 : List.take 1 (List.drop i (Value.agg cs).cells.toList) = [u] := by
    simp only [Value.cells]
    rw [List.drop_eq_getElem_cons hlt]
    have : cs.toList[i] = u := by
      obtain ⟨h, e⟩ := Array.getElem?_eq_some_iff.1 hu
      simpa using e
    rw [this]
    rfl
  rw [o1, k1, e1] at h1
  obtain ⟨y, hy⟩ : ∃ y, xs[i]? = some y := ⟨_, List.getElem?_eq_getElem (by have := (Array.getElem?_eq_some_iff.1 hi).1; omega)⟩
  rw [hy] at h1
  exact ⟨y, h1⟩
theorem open_agg5 {H : Type} {enc : TypeId × Value → H} {P : Program} {w : World} {r : Reach} {b0 base : Nat} {spare : Nat → Bool} {held : Bool} {t : TypeId} {f0 f1 f2 f3 f4 : Field} {v : Value} {d : DataW H} {p : List MemPlace}
    (hs : P.underlying t = some (.struct #[f0, f1, f2, f3, f4])) (hone : oneCellFields P #[f0, f1, f2, f3, f4] = true) (hC : P.cellsOf t = 5) (hv : Value.okWide P w r b0 t v) (h : DataW.Trod enc P w base spare held t v d p) :
    ∃ (a b c e g : Value) (y0 y1 y2 y3 y4 : DataW H × List MemPlace) (n : Nat), v = .agg #[a, b, c, e, g] ∧ DataW.trod enc P w base spare held n f0.type [a] = some y0 ∧ DataW.trod enc P w base spare held n f1.type [b] = some y1 ∧ DataW.trod enc P w base spare held n f2.type [c] = some y2 ∧ DataW.trod enc P w base spare held n f3.type [e] = some y3 ∧ DataW.trod enc P w base spare held n f4.type [g] = some y4 := by
  obtain ⟨cs, n, rfl, hsz, hf⟩ := open_fields hs hone hv h
  obtain ⟨a, b, c, e, g, rfl⟩ := five (hsz.trans hC)
  obtain ⟨y0, h0⟩ := hf 0 f0 a rfl rfl
  obtain ⟨y1, h1⟩ := hf 1 f1 b rfl rfl
  obtain ⟨y2, h2⟩ := hf 2 f2 c rfl rfl
  obtain ⟨y3, h3⟩ := hf 3 f3 e rfl rfl
  obtain ⟨y4, h4⟩ := hf 4 f4 g rfl rfl
  exact ⟨a, b, c, e, g, y0, y1, y2, y3, y4, n, rfl, h0, h1, h2, h3, h4⟩
theorem open_is_array {H : Type} {enc : TypeId × Value → H} {P : Program} {w : World} {r : Reach} {b0 base : Nat} {spare : Nat → Bool} {held : Bool} {t e e2 : TypeId} {n : Nat} {v : Value} {d : DataW H} {p : List MemPlace}
    (ht : P.underlying t = some (.array n e)) (he : P.underlying e = some (.slice e2)) (he2 : P.underlying e2 = some (.int .i64)) (hc2 : P.cellsOf e2 = 1) (hce : P.cellsOf e = 1) (hct : P.cellsOf t = n)
    (hv : Value.okWide P w r b0 t v) (h : DataW.Trod enc P w base spare held t v d p) :
    ∃ vs : List Value, vs.length = n ∧ v = .agg vs.toArray ∧ ∀ u ∈ vs, ∃ l : List Int, IntsAt w u l ∧ (∀ z ∈ l, (Lit.int .i64 z).wf = true) ∧ l.length ≤ 9223372036854775807 := by
  simp only [Value.okWide, ht] at hv
  obtain ⟨cs, rfl, hsz, _⟩ := hv
  obtain ⟨fuel, hf⟩ := h
  obtain ⟨xs, m, rfl, hx, hlen, hn, hel⟩ := DataW.trod_array ht hf
  rw [hct] at hsz
  refine ⟨cs.toList, by simpa using hsz, by simp, fun u hu => ?_⟩
  obtain ⟨i, hi, rfl⟩ := List.mem_iff_getElem.1 hu
  have hi' : i < n := by simpa [hsz] using hi
  have h1 := hel i hi'
  rw [hce] at h1
  obtain ⟨y, hy⟩ : ∃ y, xs[i]? = some y := ⟨_, List.getElem?_eq_getElem (by omega)⟩
  rw [hy] at h1
  have e1 : (List.take 1 (List.drop (i * 1) (Value.agg cs).cells.toList)) = [cs.toList[i]] := by
    simp only [Value.cells, Nat.mul_one]
    rw [List.drop_eq_getElem_cons hi]
    rfl
  rw [e1] at h1
  exact open_is he he2 hc2 h1
theorem open_is_array2 {H : Type} {enc : TypeId × Value → H} {P : Program} {w : World} {r : Reach} {b0 base : Nat} {spare : Nat → Bool} {held : Bool} {t e e2 : TypeId} {v : Value} {d : DataW H} {p : List MemPlace}
    (ht : P.underlying t = some (.array 2 e)) (he : P.underlying e = some (.slice e2)) (he2 : P.underlying e2 = some (.int .i64)) (hc2 : P.cellsOf e2 = 1) (hce : P.cellsOf e = 1) (hct : P.cellsOf t = 2)
    (hv : Value.okWide P w r b0 t v) (h : DataW.Trod enc P w base spare held t v d p) :
    ∃ (v0 : Value) (l0 : List Int) (v1 : Value) (l1 : List Int), v = .agg #[v0, v1] ∧ (IntsAt w v0 l0 ∧ (∀ z ∈ l0, (Lit.int .i64 z).wf = true) ∧ l0.length ≤ 9223372036854775807) ∧ (IntsAt w v1 l1 ∧ (∀ z ∈ l1, (Lit.int .i64 z).wf = true) ∧ l1.length ≤ 9223372036854775807) := by
  obtain ⟨vs, hl, hv, hw⟩ := open_is_array ht he he2 hc2 hce hct hv h
  match vs, hl with
  | [x, y], _ =>
    obtain ⟨l0, h0⟩ := hw x (by simp)
    obtain ⟨l1, h1⟩ := hw y (by simp)
    exact ⟨x, l0, y, l1, hv, h0, h1⟩
theorem open_is_array3 {H : Type} {enc : TypeId × Value → H} {P : Program} {w : World} {r : Reach} {b0 base : Nat} {spare : Nat → Bool} {held : Bool} {t e e2 : TypeId} {v : Value} {d : DataW H} {p : List MemPlace}
    (ht : P.underlying t = some (.array 3 e)) (he : P.underlying e = some (.slice e2)) (he2 : P.underlying e2 = some (.int .i64)) (hc2 : P.cellsOf e2 = 1) (hce : P.cellsOf e = 1) (hct : P.cellsOf t = 3)
    (hv : Value.okWide P w r b0 t v) (h : DataW.Trod enc P w base spare held t v d p) :
    ∃ (v0 : Value) (l0 : List Int) (v1 : Value) (l1 : List Int) (v2 : Value) (l2 : List Int), v = .agg #[v0, v1, v2] ∧ (IntsAt w v0 l0 ∧ (∀ z ∈ l0, (Lit.int .i64 z).wf = true) ∧ l0.length ≤ 9223372036854775807) ∧ (IntsAt w v1 l1 ∧ (∀ z ∈ l1, (Lit.int .i64 z).wf = true) ∧ l1.length ≤ 9223372036854775807) ∧ (IntsAt w v2 l2 ∧ (∀ z ∈ l2, (Lit.int .i64 z).wf = true) ∧ l2.length ≤ 9223372036854775807) := by
  obtain ⟨vs, hl, hv, hw⟩ := open_is_array ht he he2 hc2 hce hct hv h
  match vs, hl with
  | [x, y, z], _ =>
    obtain ⟨l0, h0⟩ := hw x (by simp)
    obtain ⟨l1, h1⟩ := hw y (by simp)
    obtain ⟨l2, h2⟩ := hw z (by simp)
    exact ⟨x, l0, y, l1, z, l2, hv, h0, h1, h2⟩
end Go.Proofs.YtfhfdpapppgfpaaGreatDoor
