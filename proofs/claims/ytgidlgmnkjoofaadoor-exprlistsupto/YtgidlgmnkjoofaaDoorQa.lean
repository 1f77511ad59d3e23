/-
  Slices that are handed over, opened: nodes, whole numbers.
-/
import Derived.Test.YtgidlgmnkjoofaaDoorPh
import Derived.Deep.Slices
import Derived.Deep.Strs
import Derived.ProofKit
import Derived.OpenShut
namespace Go.Proofs.YtgidlgmnkjoofaaDoor
open Go.ChangeShapes Go.WideShapes Go.ChangeAt Go.RowKit Go.Deep
set_option linter.unusedVariables false
/-- A slice of whatever elements, opened: element by element. -/
theorem open_row {H : Type} {enc : TypeId × Value → H} {P : Program} {w : World} {base : Nat} {spare : Nat → Bool} {held : Bool} {t e : TypeId} {fuel : Nat} {cs : List Value} {x : DataW H × List MemPlace} {α : Type} [Inhabited α] {f : α → List Value} {s : Nat} {ok : α → DataW H → Prop}
    (ht : P.underlying t = some (.slice e)) (ce : P.cellsOf e = s) (hs : 0 < s) (hf : ∀ q, (f q).length = s) (hel : ∀ n cs' y, DataW.trod enc P w base spare held n e cs' = some y → cs'.length = s → ∃ q, cs' = f q ∧ ok q y.1)
    (h : DataW.trod enc P w base spare held fuel t cs = some x) :
    (cs = [.slice none 0 0] ∧ x.1 = .nil) ∨ ∃ (ad : Option Addr) (len cap : Nat) (L : List α) (D : Nat → DataW H) (ss : List (DataW H)), cs = [.slice ad len cap] ∧ L.length = len ∧ RowV w ad (L.flatMap f) ∧ x.1 = .slice ((List.range len).map D) ss ∧ ∀ i (h : i < L.length), ok (L[i]'h) (D i) := by
  rcases open_slice ht h with ⟨h0, h1⟩ | ⟨a, len, cap, m, n, D, Pl, rfl, hb, hl, hm, hmm, hx', hx⟩
  · exact .inl ⟨h0, by rw [h1]⟩
  · right
    have hlm : len ≤ m := by rw [hmm]; split <;> omega
    have each : ∀ i, i < len → ∃ q : α, (∀ j, j < s → w.cell? (a.add (i * s + j)) = (f q)[j]?) ∧ ok q (D i) := by
      intro i hi
      obtain ⟨cs', h1, h2⟩ := hx i (by omega)
      rw [ce] at h1
      obtain ⟨_, hlen, hcell⟩ := World.cells?_some h1
      obtain ⟨q, rfl, hq⟩ := hel n cs' _ h2 hlen
      refine ⟨q, fun j hj => ?_, hq⟩
      have k := hcell j (by omega)
      rw [add_add] at k
      rw [k]
    obtain ⟨q, hq⟩ := choose_lt each
    refine ⟨some a, len, cap, (List.range len).map q, D, _, rfl, by simp, ?_, by rw [hx'], fun i hi => ?_⟩
    · intro j u hu
      have hj : j < len * s := by
        have := (List.getElem?_eq_some_iff.1 hu).1
        rw [flat_len f s hf] at this
        simpa using this
      have hjs : j / s < len := (Nat.div_lt_iff_lt_mul hs).2 hj
      have hjm : j % s < s := Nat.mod_lt _ hs
      have hdm : j / s * s + j % s = j := by rw [Nat.mul_comm]; exact Nat.div_add_mod j s
      have hat := flat_at f s hf ((List.range len).map q) (j / s) (by simpa using hjs) (j % s) hjm
      rw [hdm, hu] at hat
      have hc := (hq (j / s) hjs).1 (j % s) hjm
      rw [hdm] at hc
      simp only [List.getElem_map, List.getElem_range] at hat
      rw [← hat] at hc
      obtain ⟨bk, off, spot⟩ := a
      have hspot : spot = none := by
        have h0 := (hq 0 (Nat.lt_of_le_of_lt (Nat.zero_le _) hjs)).1 0 hs
        rw [List.getElem?_eq_getElem (by rw [hf]; exact hs)] at h0
        simpa [Addr.add] using World.cell?_spot h0
      subst hspot
      rw [Go.WideShapes.add_plain] at hc
      exact ⟨bk, off, rfl, hc⟩
    · have hi' : i < len := by simpa using hi
      simpa using (hq i hi').2
theorem wf_u8 {x : Int} (h : (Lit.int .u8 x).wf = true) : 0 ≤ x ∧ x < 256 := by
  have := bounds_u8 h
  omega
theorem wf_inR {x : Int} (h : (Lit.int .i64 x).wf = true) : inR x := bounds_i64 h
/-- A slice of nodes. -/
def NodeS (w : World) (v : Value) (L : List Node) : Prop := ∃ ad cap, v = .slice ad L.length cap ∧ RowV w ad (L.flatMap NodeC)
def IntS (w : World) (v : Value) (L : List Int) : Prop := ∃ ad cap, v = .slice ad L.length cap ∧ RowV w ad (L.flatMap (fun x => [Value.int .i64 x]))
set_option maxRecDepth 100000 in
theorem open_nodes {H : Type} {enc : TypeId × Value → H} {w : World} {base : Nat} {spare : Nat → Bool} {held : Bool} {fuel : Nat} {ad : Option Addr} {len cap : Nat} {x : DataW H × List MemPlace}
    (h : DataW.trod enc Tryd.prog w base spare held fuel 23 (Value.slice ad len cap).cells.toList = some x) :
    ∃ L : List Node, NodeS w (.slice ad len cap) L ∧ (∀ n ∈ L, n.1 < 256 ∧ inR n.2) ∧ L.length = len ∧ ((x.1 = .nil ∧ len = 0) ∨ ∃ ds ss, x.1 = .slice ds ss ∧ ds.length = len) := by
  rcases open_row (α := Node) (f := NodeC) (s := 2) (ok := fun n _ => n.1 < 256 ∧ inR n.2) Tryd.underlying23 (by kernel_rfl) (by decide) (fun _ => rfl) (by
    intro n cs' y hy hl
    obtain ⟨y0, y1, k, -, -, g0, g1⟩ := trod_struct2 Tryd.underlying54 hy
    match cs', hl with
    | [v0, v1], _ =>
      have c0 : Tryd.prog.cellsOf 52 = 1 := by kernel_rfl
      have c1 : Tryd.prog.cellsOf 3 = 1 := by kernel_rfl
      simp [c0, c1] at g0 g1
      obtain ⟨z0, e0, _, wf0⟩ := DataW.trod_int Tryd.underlying52 g0
      obtain ⟨z1, e1, _, wf1⟩ := DataW.trod_int Tryd.underlying3 g1
      simp at e0 e1
      subst e0 e1
      have := wf_u8 wf0
      refine ⟨(z0.toNat, z1), ?_, by show z0.toNat < 256; omega, wf_inR wf1⟩
      show [Value.int .u8 z0, Value.int .i64 z1] = [Value.int .u8 (z0.toNat : Int), Value.int .i64 z1]
      rw [Int.toNat_of_nonneg this.1]) h with ⟨h0, h1⟩ | ⟨ad', len', cap', L, D, ss, h0, hL, hR, hx, hok⟩
  · simp [Value.cells] at h0
    obtain ⟨rfl, rfl, rfl⟩ := h0
    exact ⟨[], ⟨_, _, rfl, RowV.nil _ _⟩, fun n hn => (by cases hn), rfl, .inl ⟨h1, rfl⟩⟩
  · simp [Value.cells] at h0
    obtain ⟨rfl, rfl, rfl⟩ := h0
    refine ⟨L, ⟨_, _, by rw [hL], hR⟩, fun n hn => ?_, hL, .inr ⟨_, _, hx, by simp⟩⟩
    obtain ⟨i, hi, rfl⟩ := List.getElem_of_mem hn
    exact hok i hi
set_option maxRecDepth 100000 in
theorem open_intsV {H : Type} {enc : TypeId × Value → H} {w : World} {base : Nat} {spare : Nat → Bool} {held : Bool} {fuel : Nat} {ad : Option Addr} {len cap : Nat} {x : DataW H × List MemPlace}
    (h : DataW.trod enc Tryd.prog w base spare held fuel 26 (Value.slice ad len cap).cells.toList = some x) :
    ∃ L : List Int, IntS w (.slice ad len cap) L ∧ (∀ n ∈ L, inR n) ∧ L.length = len ∧ ((x.1 = .nil ∧ len = 0) ∨ ∃ ds ss, x.1 = .slice ds ss ∧ ds.length = len) := by
  rcases open_row (α := Int) (f := fun x => [Value.int .i64 x]) (s := 1) (ok := fun n _ => inR n) Tryd.underlying26 (by kernel_rfl) (by decide) (fun _ => rfl) (by
    intro n cs' y hy hl
    obtain ⟨z0, e0, _, wf0⟩ := DataW.trod_int Tryd.underlying3 hy
    exact ⟨z0, e0, wf_inR wf0⟩) h with ⟨h0, h1⟩ | ⟨ad', len', cap', L, D, ss, h0, hL, hR, hx, hok⟩
  · simp [Value.cells] at h0
    obtain ⟨rfl, rfl, rfl⟩ := h0
    exact ⟨[], ⟨_, _, rfl, RowV.nil _ _⟩, fun n hn => (by cases hn), rfl, .inl ⟨h1, rfl⟩⟩
  · simp [Value.cells] at h0
    obtain ⟨rfl, rfl, rfl⟩ := h0
    refine ⟨L, ⟨_, _, by rw [hL], hR⟩, fun n hn => ?_, hL, .inr ⟨_, _, hx, by simp⟩⟩
    obtain ⟨i, hi, rfl⟩ := List.getElem_of_mem hn
    exact hok i hi
end Go.Proofs.YtgidlgmnkjoofaaDoor
