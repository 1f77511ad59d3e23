/-
  The statement LexJoins: a slice of tokens that is handed over, opened; and the walk.
-/
import Derived.Test.YtabjadbpllhgkaaDoorMx
import Derived.Deep.Slices
import Derived.Deep.Strs
import Derived.Lib.SmallJoins
import Derived.ProofKit
import Derived.OpenShut
import Derived.Test.YtabjadbpllhgkaaDoorRows
namespace Go.Proofs.YtabjadbpllhgkaaDoor
open Go.ChangeShapes Go.WideShapes Go.ChangeAt Go.RowKit Go.Deep
set_option linter.unusedVariables false
/-- How a token reads. -/
def itemD {H : Type} (x : Item) : DataW H := .agg [.lit (.int .i64 x.1), .lit (.string x.2.1.data.toList), .lit (.int .i64 x.2.2.1), .lit (.int .i64 x.2.2.2.1)]
theorem open_toks {H : Type} {enc : TypeId × Value → H} {P : Program} {w : World} {base : Nat} {spare : Nat → Bool} {held : Bool} {t e : TypeId} {f0 f1 f2 f3 : Field} {fuel : Nat} {cs : List Value} {x : DataW H × List MemPlace}
    (ht : P.underlying t = some (.slice e)) (he : P.underlying e = some (.struct #[f0, f1, f2, f3])) (ce : P.cellsOf e = 4) (o0 : f0.offset = 0) (o1 : f1.offset = 1) (o2 : f2.offset = 2) (o3 : f3.offset = 3) (c0 : P.cellsOf f0.type = 1) (c1 : P.cellsOf f1.type = 1) (c2 : P.cellsOf f2.type = 1) (c3 : P.cellsOf f3.type = 1)
    (u0 : P.underlying f0.type = some (.int .i64)) (u1 : P.underlying f1.type = some .string) (u2 : P.underlying f2.type = some (.int .i64)) (u3 : P.underlying f3.type = some (.int .i64)) (h : DataW.trod enc P w base spare held fuel t cs = some x) :
    cs = [.slice none 0 0] ∨ ∃ (a : Addr) (cap : Nat) (ss : List (DataW H)) (L : List Item), cs = [.slice (some a) L.length cap] ∧ x.1 = .slice (L.map itemD) ss ∧
      ∀ k (hk : k < L.length), w.cell? (a.add (k * 4)) = some (.int .i64 (L[k]'hk).1) ∧ w.cell? (a.add (k * 4 + 1)) = some (.string (L[k]'hk).2.1) ∧ w.cell? (a.add (k * 4 + 2)) = some (.int .i64 (L[k]'hk).2.2.1) ∧ w.cell? (a.add (k * 4 + 3)) = some (.int .i64 (L[k]'hk).2.2.2.1) ∧ (Lit.int .i64 (L[k]'hk).1).wf = true := by
  rcases open_slice ht h with ⟨h0, _⟩ | ⟨a, len, cap, m, n, D, Pl, rfl, hb, hl, hm, hmm, hx', hx⟩
  · exact .inl h0
  · right
    have hlm : len ≤ m := by rw [hmm]; split <;> omega
    have each : ∀ i, i < len → ∃ q : Item, D i = itemD q ∧ w.cell? (a.add (i * 4)) = some (.int .i64 q.1) ∧ w.cell? (a.add (i * 4 + 1)) = some (.string q.2.1) ∧ w.cell? (a.add (i * 4 + 2)) = some (.int .i64 q.2.2.1) ∧ w.cell? (a.add (i * 4 + 3)) = some (.int .i64 q.2.2.2.1) ∧ (Lit.int .i64 q.1).wf = true := by
      intro i hi
      obtain ⟨cs', h1, h2⟩ := hx i (by omega)
      rw [ce] at h1
      obtain ⟨_, hlen, hcell⟩ := World.cells?_some h1
      obtain ⟨y0, y1, y2, y3, k, hy, -, g0, g1, g2, g3⟩ := Go.Joins.trod_struct4 he h2
      match cs', hlen with
      | [v0, v1, v2, v3], _ =>
        simp [o0, o1, o2, o3, c0, c1, c2, c3] at g0 g1 g2 g3
        obtain ⟨z0, e0, d0, wf0⟩ := DataW.trod_int u0 g0
        obtain ⟨z1, e1, d1, wf1⟩ := DataW.trod_string u1 g1
        obtain ⟨z2, e2, d2, wf2⟩ := DataW.trod_int u2 g2
        obtain ⟨z3, e3, d3, wf3⟩ := DataW.trod_int u3 g3
        have k0 := hcell 0 (by omega)
        have k1 := hcell 1 (by omega)
        have k2 := hcell 2 (by omega)
        have k3 := hcell 3 (by omega)
        rw [add_add] at k0 k1 k2 k3
        simp at e0 e1 e2 e3
        subst e0 e1 e2 e3
        refine ⟨(z0, z1, z2, z3, 0), ?_, by simpa using k0, by simpa using k1, by simpa using k2, by simpa using k3, wf0⟩
        have := congrArg Prod.fst hy
        simp only [d0, d1, d2, d3] at this
        exact this
    obtain ⟨q, hq⟩ := choose_lt each
    have ln : ((List.range len).map q).length = len := by simp
    refine ⟨a, cap, (List.range (m - len)).map (fun j => D (len + j)), (List.range len).map q, by rw [ln], ?_, fun k hk => ?_⟩
    · rw [hx', List.map_map]
      show DataW.slice _ _ = _
      congr 1
      apply List.map_congr_left
      intro i hi
      exact (hq i (List.mem_range.1 hi)).1
    · have hk' : k < len := by rw [ln] at hk; exact hk
      have := (hq k hk').2
      simpa using this
theorem bulk_sum {H : Type} : ∀ L : List Item, sumL L + 3 * L.length ≤ Rows.uptoBulkAll (L.map (itemD (H := H)))
  | [] => Nat.le_refl _
  | x :: L => by
    have := bulk_sum (H := H) L
    rw [List.map_cons, Rows.uptoBulkAll]
    unfold itemD
    simp only [Rows.uptoBulk, Rows.uptoBulkAll, List.length_cons]
    unfold sumL at this ⊢
    rw [List.map_cons, List.sum_cons]
    rw [len_of]
    unfold itemD at this
    omega
theorem i64_bd {x : Int} (h : (Lit.int .i64 x).wf = true) : -9223372036854775808 ≤ x ∧ x ≤ 9223372036854775807 := by
  have h1 : IntKind.i64.min = -9223372036854775808 := by decide
  have h2 : IntKind.i64.max = 9223372036854775807 := by decide
  simp [Lit.wf, h1, h2] at h
  omega
namespace lexJoins
/-- Tokens in a slice that is handed over. -/
def TokO (w : World) (v : Value) (L : List Item) : Prop := (L = [] ∧ ∃ ad cap, v = .slice ad 0 cap) ∨ ∃ g o cap, v = .slice (some ⟨g, o, none⟩) L.length cap ∧ RowO w g o L
theorem walk (v : Value) (L : List Item) (w : World) (hk : Kept w) (hv : TokO w v L) (wf : ∀ x ∈ L, (Lit.int .i64 x.1).wf = true) (up : sumL L + 3 * L.length ≤ 1048576) :
    Calls Tryd.prog 6 #[v] w fun e w' => e = .returned (.bool true) ∧ Below w.heap.size w w' := by
  rcases hv with ⟨-, ad, cap, rfl⟩ | ⟨g, o, cap, rfl, hr⟩
  · exact joins_none ad cap w hk
  · exact joins_some g o cap L w hk hr (by omega) (by omega) (fun x hx => i64_bd (wf x hx))
end lexJoins
end Go.Proofs.YtabjadbpllhgkaaDoor
