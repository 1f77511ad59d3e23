/-
  Lists of fractions that are handed over, opened.
-/
import Derived.Test.YtnfkmpickmonoaaGreatQ0
import Derived.Deep.Slices
import Derived.Deep.Strs
import Derived.ProofKit
import Derived.OpenShut
namespace Go.Proofs.YtnfkmpickmonoaaGreat
open Go.RowKit
open Go.ChangeShapes Go.WideShapes Go.ChangeAt Go.Deep
set_option linter.unusedVariables false
/-- A list of fractions. -/
structure Rats where
  q : Nat
  n : Nat → Int
  d : Nat → Int
/-- They lie in memory, two cells each, behind a slice's address. -/
def RatV (w : World) (ad : Option Addr) (L : Rats) : Prop := ∀ k, k < L.q → ∃ b off, ad = some ⟨b, off, none⟩ ∧ w.cell? ⟨b, off + k * 2, none⟩ = some (.int .i64 (L.n k)) ∧ w.cell? ⟨b, off + k * 2 + 1, none⟩ = some (.int .i64 (L.d k))
theorem open_rats {H : Type} {enc : TypeId × Value → H} {P : Program} {w : World} {base : Nat} {spare : Nat → Bool} {held : Bool} {t e : TypeId} {f0 f1 : Field} {fuel : Nat} {cs : List Value} {x : DataW H × List MemPlace}
    (ht : P.underlying t = some (.slice e)) (he : P.underlying e = some (.struct #[f0, f1])) (ce : P.cellsOf e = 2) (o0 : f0.offset = 0) (o1 : f1.offset = 1) (c0 : P.cellsOf f0.type = 1) (c1 : P.cellsOf f1.type = 1)
    (u0 : P.underlying f0.type = some (.int .i64)) (u1 : P.underlying f1.type = some (.int .i64)) (h : DataW.trod enc P w base spare held fuel t cs = some x) :
    cs = [.slice none 0 0] ∨ ∃ (a : Addr) (len cap : Nat) (ds ss : List (DataW H)) (L : Rats), cs = [.slice (some a) len cap] ∧ L.q = len ∧ ds.length = len ∧ x.1 = .slice ds ss ∧
      ∀ k, k < len → w.cell? (a.add (k * 2)) = some (.int .i64 (L.n k)) ∧ w.cell? (a.add (k * 2 + 1)) = some (.int .i64 (L.d k)) ∧ (Lit.int .i64 (L.n k)).wf = true ∧ (Lit.int .i64 (L.d k)).wf = true := by
  rcases open_slice ht h with ⟨h0, _⟩ | ⟨a, len, cap, m, n, D, Pl, rfl, hb, hl, hm, hmm, hx', hx⟩
  · exact .inl h0
  · right
    have hlm : len ≤ m := by rw [hmm]; split <;> omega
    have each : ∀ i, i < len → ∃ q : Int × Int, w.cell? (a.add (i * 2)) = some (.int .i64 q.1) ∧ w.cell? (a.add (i * 2 + 1)) = some (.int .i64 q.2) ∧ (Lit.int .i64 q.1).wf = true ∧ (Lit.int .i64 q.2).wf = true := by
      intro i hi
      obtain ⟨cs', h1, h2⟩ := hx i (by omega)
      rw [ce] at h1
      obtain ⟨_, hlen, hcell⟩ := World.cells?_some h1
      obtain ⟨y0, y1, k, -, -, g0, g1⟩ := trod_struct2 he h2
      match cs', hlen with
      | [v0, v1], _ =>
        simp [o0, o1, c0, c1] at g0 g1
        obtain ⟨z0, e0, _, wf0⟩ := DataW.trod_int u0 g0
        obtain ⟨z1, e1, _, wf1⟩ := DataW.trod_int u1 g1
        have k0 := hcell 0 (by omega)
        have k1 := hcell 1 (by omega)
        rw [add_add] at k0 k1
        simp at e0 e1
        subst e0 e1
        exact ⟨(z0, z1), by simpa using k0, by simpa using k1, wf0, wf1⟩
    obtain ⟨q, hq⟩ := choose_lt each
    exact ⟨a, len, cap, (List.range len).map D, _, ⟨len, fun i => (q i).1, fun i => (q i).2⟩, rfl, rfl, by simp, by rw [hx'], fun k hk => hq k hk⟩
/-- A slice that holds them. -/
def RatS (w : World) (v : Value) (L : Rats) : Prop := ∃ ad cap, v = .slice ad L.q cap ∧ (ad = none → L.q = 0 ∧ cap = 0) ∧ RatV w ad L
end Go.Proofs.YtnfkmpickmonoaaGreat
