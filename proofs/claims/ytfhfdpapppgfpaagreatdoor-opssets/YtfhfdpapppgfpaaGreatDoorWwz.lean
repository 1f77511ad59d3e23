/-
  Slices of slices of bounds opened; what is told of a hull.
-/
import Derived.Test.YtfhfdpapppgfpaaGreatDoorZi
import Derived.Test.YtfhfdpapppgfpaaGreatDoorZh
import Derived.Deep.Slices
import Derived.ProofKit
import Derived.OpenShut
namespace Go.Proofs.YtfhfdpapppgfpaaGreatDoor
open Go.ChangeShapes Go.WideShapes Go.ChangeAt Go.RowKit Go.Deep
set_option linter.unusedVariables false
set_option maxRecDepth 100000
/-- Slices of bounds behind an address. -/
def Bss (w : World) (ad : Option Addr) (len : Nat) (V : Nat → Value) (L : Nat → List Int) : Prop := ∀ k, k < len → ∃ b off, ad = some ⟨b, off, none⟩ ∧ w.cell? ⟨b, off + k, none⟩ = some (V k) ∧ SliceAt w (V k) (L k) ∧ (∀ z ∈ L k, (Lit.int .i32 z).wf = true) ∧ (L k).length ≤ 9223372036854775807
theorem open_bs {H : Type} {enc : TypeId × Value → H} {w : World} {base : Nat} {spare : Nat → Bool} {held : Bool} {fuel : Nat} {v : Value} {x : DataW H × List MemPlace}
    (h : DataW.trod enc Tryz.prog w base spare held fuel 22 [v] = some x) : ∃ l : List Int, SliceAt w v l ∧ (∀ z ∈ l, (Lit.int .i32 z).wf = true) ∧ l.length ≤ 9223372036854775807 := by
  rcases open_ints Tryz.underlying22 Tryz.underlying45 (by kernel_rfl) h with ⟨hcs, _⟩ | ⟨a, len, cap, zs, hcs, _, hl, hm, hz, hx, hcell, hwz⟩
  · simp at hcs
    exact ⟨[], .inl ⟨_, _, hcs, rfl⟩, by simp, by simp⟩
  · simp at hcs
    subst hcs
    have hlz : len ≤ zs.length := by rw [hz]; split <;> omega
    have tl : (zs.take len).length = len := by simp; omega
    refine ⟨zs.take len, ?_, fun z hz' => hwz z (List.mem_of_mem_take hz'), by rw [tl]; unfold maxLen at hm; omega⟩
    by_cases hp : 0 < len
    · obtain ⟨bk, off, rfl, hc⟩ := ints_at hcell (by omega)
      refine .inr ⟨bk, off, cap, by rw [tl], fun j hj => ?_⟩
      rw [tl] at hj
      rw [hc j (by omega)]
      simp [List.getD, hj]
    · obtain rfl : len = 0 := by omega
      exact .inl ⟨_, _, rfl, by simp⟩
theorem SliceAt.past' {w w' : World} {v : Value} {l : List Int} (h : SliceAt w v l) (hb : Below w.heap.size w w') : SliceAt w' v l := by
  rcases h with ⟨ad, c, h1, h2⟩ | ⟨b, off, cap, h1, h2⟩
  · exact .inl ⟨ad, c, h1, h2⟩
  · exact .inr ⟨b, off, cap, h1, fun j hj => kc _ _ hb (h2 j hj)⟩
theorem info_zp : (Tryz.prog.info? 27).map (fun i => (i.zero, i.size, i.bytes)) = some (some (.pointer none), 1, 8) := by kernel_rfl
/-- Zones in memory, in a list. -/
def ZL (w : World) (n m : Nat) (zs : List (Nat × Row)) : Prop := ∀ e ∈ zs, ZoneAt w e.1 n e.2 ∧ C32 e.2 ∧ ZC n m e.2
theorem ZL.past {w w' : World} {n m : Nat} {zs : List (Nat × Row)} (h : ZL w n m zs) (hb : Below w.heap.size w w') : ZL w' n m zs := fun e he => ⟨(h e he).1.past hb, (h e he).2⟩
def pv (e : Nat × Row) : Value := .pointer (some ⟨e.1, 0, none⟩)
def zB (zs : List (Nat × Row)) (k : Nat) : Nat := (zs.getD k (0, fun _ => 0)).1
def zR (zs : List (Nat × Row)) (k : Nat) : Row := (zs.getD k (0, fun _ => 0)).2
theorem ZL.at {w : World} {n m : Nat} {zs : List (Nat × Row)} (h : ZL w n m zs) {k : Nat} (hk : k < zs.length) : ZoneAt w (zB zs k) n (zR zs k) := by
  have e : zs.getD k (0, fun _ => 0) = zs[k] := by simp [List.getD, hk]
  unfold zB zR
  rw [e]
  exact (h _ (List.getElem_mem hk)).1
theorem ZL.zc {w : World} {n m : Nat} {zs : List (Nat × Row)} (h : ZL w n m zs) (k : Nat) : C32 (zR zs k) ∧ ZC n m (zR zs k) := by
  unfold zR
  by_cases hk : k < zs.length
  · have e : zs.getD k (0, fun _ => 0) = zs[k] := by simp [List.getD, hk]
    rw [e]
    exact (h _ (List.getElem_mem hk)).2
  · have e : zs.getD k (0, fun _ => 0) = (0, fun _ => 0) := by simp [List.getD, hk]
    rw [e]
    exact ⟨fun _ => by show (-2147483648 : Int) ≤ 0 ∧ (0 : Int) ≤ 2147483647; omega, .inl rfl⟩
theorem own_ptrs {w : World} {base q : Nat} {T : TypeId} {u : Value} {zs : List (Nat × Row)} (h : w.ownsRow base T 1 u q (zs.map pv)) (hq : zs.length = q) : ∃ ad cap, u = .slice ad q cap ∧ ∀ k, k < q → ∃ g, ad = some ⟨g, 0, none⟩ ∧ w.cell? ⟨g, k, none⟩ = some (.pointer (some ⟨zB zs k, 0, none⟩)) := by
  rcases h.2 with ⟨hv, h0⟩ | ⟨g, cap, cur, hv, h1, h2, h3⟩
  · subst h0
    exact ⟨none, 0, hv, fun k hk => by omega⟩
  · subst hv
    refine ⟨_, cap, rfl, fun k hk => ⟨g, rfl, ?_⟩⟩
    have := h.cellAt k (by omega)
    rw [this, List.getElem?_map]
    have e : zs[k]? = some (zs.getD k (0, fun _ => 0)) := by simp [List.getD, show k < zs.length by omega]
    rw [e]
    rfl
end Go.Proofs.YtfhfdpapppgfpaaGreatDoor
