/-
  fed: what the law is handed, opened: matrices, and a mark.
-/
import Derived.Test.YtnfkmpickmonoaaGreatQ31
import Derived.Lib.SmallJoins
import Derived.Test.YtnfkmpickmonoaaGreatQ51
import Derived.Laws.IdiomArrays
namespace Go.Proofs.YtnfkmpickmonoaaGreat
open Go.ChangeShapes Go.WideShapes Go.ChangeAt Go.RowKit Go.Deep
set_option linter.unusedVariables false
set_option maxRecDepth 100000
theorem open_bssV {H : Type} {enc : TypeId × Value → H} {w : World} {base : Nat} {spare : Nat → Bool} {held : Bool} {fuel : Nat} {v : Value} {x : DataW H × List MemPlace}
    (h : DataW.trod enc Tryz.prog w base spare held fuel 22 [v] = some x) : ∃ ad len cap V L, v = .slice ad len cap ∧ Bss w ad len V L := by
  have hv : ∃ ad len cap, v = .slice ad len cap := by
    rcases open_slice1 Tryz.underlying22 (by kernel_rfl) h with ⟨h0, _⟩ | ⟨a, len', cap', m, n, V, D, Pl, h0, _⟩
    · simp at h0
      exact ⟨_, _, _, h0⟩
    · simp at h0
      exact ⟨_, _, _, h0⟩
  obtain ⟨ad, len, cap, rfl⟩ := hv
  obtain ⟨V, L, h1⟩ := open_bss (ad := ad) (len := len) (cap := cap) h
  exact ⟨ad, len, cap, V, L, rfl, h1⟩
theorem open_rows {H : Type} {enc : TypeId × Value → H} {w : World} {r : Reach} {b0 base : Nat} {spare : Nat → Bool} {held : Bool} {v : Value} {d : DataW H} {p : List MemPlace}
    (hv : Value.okWide Tryz.prog w r b0 24 v) (h : DataW.Trod enc Tryz.prog w base spare held 24 v d p) :
    ∃ ad len cap nl V L, v = .agg #[.slice ad len cap, .bool nl] ∧ Bss w ad len V L := by
  obtain ⟨c0, c1, y0, y1, m, rfl, _, _, g0, g1⟩ := Joins.open_agg2 Tryz.underlying24 (by kernel_rfl) (by kernel_rfl) hv h
  obtain ⟨ad, len, cap, V, L, rfl, h1⟩ := open_bssV g0
  obtain ⟨b, e1, _⟩ := DataW.trod_bool Tryz.underlying4 g1
  simp only [List.cons.injEq, and_true] at e1
  subst e1
  exact ⟨ad, len, cap, b, V, L, rfl, h1⟩
end Go.Proofs.YtnfkmpickmonoaaGreat

/-
  fed: what FedAsks and FedPoints are handed, opened.
-/
namespace Go.Proofs.YtnfkmpickmonoaaGreat
open Go.ChangeShapes Go.WideShapes Go.ChangeAt Go.RowKit Go.Deep Go.Shelf
set_option linter.unusedVariables false
set_option maxRecDepth 100000
theorem open_ratsQ {H : Type} {enc : TypeId × Value → H} {P : Program} {w : World} {base : Nat} {spare : Nat → Bool} {held : Bool} {t e : TypeId} {f0 f1 : Field} {fuel : Nat} {cs : List Value} {x : DataW H × List MemPlace}
    (ht : P.underlying t = some (.slice e)) (he : P.underlying e = some (.struct #[f0, f1])) (ce : P.cellsOf e = 2) (o0 : f0.offset = 0) (o1 : f1.offset = 1) (c0 : P.cellsOf f0.type = 1) (c1 : P.cellsOf f1.type = 1)
    (u0 : P.underlying f0.type = some (.int .i64)) (u1 : P.underlying f1.type = some (.int .i64)) (h : DataW.trod enc P w base spare held fuel t cs = some x) :
    cs = [.slice none 0 0] ∨ ∃ (a : Addr) (len cap : Nat) (L : Rats), cs = [.slice (some a) len cap] ∧ L.q = len ∧ len ≤ 9223372036854775807 ∧
      ∀ k, k < len → w.cell? (a.add (k * 2)) = some (.int .i64 (L.n k)) ∧ w.cell? (a.add (k * 2 + 1)) = some (.int .i64 (L.d k)) ∧ (Lit.int .i64 (L.n k)).wf = true ∧ (Lit.int .i64 (L.d k)).wf = true := by
  rcases open_slice ht h with ⟨h0, _⟩ | ⟨a, len, cap, m, n, D, Pl, rfl, hb, hl, hm, hmm, hx', hx⟩
  · exact .inl h0
  · right
    have hlm : len ≤ m := by rw [hmm]; split <;> omega
    have each : ∀ i, i < len → ∃ q : Int × Int, w.cell? (a.add (i * 2)) = some (.int .i64 q.1) ∧ w.cell? (a.add (i * 2 + 1)) = some (.int .i64 q.2) ∧ (Lit.int .i64 q.1).wf = true ∧ (Lit.int .i64 q.2).wf = true := by
      intro i hi
      obtain ⟨cs', h1, h2⟩ := hx i (by omega)
      rw [ce] at h1
      obtain ⟨_, hlen, hcell⟩ := World.cells?_some h1
      obtain ⟨y0, y1, k, -, -, g0, g1⟩ := trod_struct2 he h2
      match cs', hlen with
      | [v0, v1], _ =>
        simp [o0, o1, c0, c1] at g0 g1
        obtain ⟨z0, e0, _, wf0⟩ := DataW.trod_int u0 g0
        obtain ⟨z1, e1, _, wf1⟩ := DataW.trod_int u1 g1
        have k0 := hcell 0 (by omega)
        have k1 := hcell 1 (by omega)
        rw [add_add] at k0 k1
        simp at e0 e1
        subst e0 e1
        exact ⟨(z0, z1), by simpa using k0, by simpa using k1, wf0, wf1⟩
    obtain ⟨q, hq⟩ := choose_lt each
    exact ⟨a, len, cap, ⟨len, fun i => (q i).1, fun i => (q i).2⟩, rfl, rfl, by unfold maxLen at hm; omega, fun k hk => hq k hk⟩
theorem open_ratsV {H : Type} {enc : TypeId × Value → H} {w : World} {base : Nat} {spare : Nat → Bool} {held : Bool} {fuel : Nat} {v : Value} {x : DataW H × List MemPlace}
    (h : DataW.trod enc Tryz.prog w base spare held fuel 27 [v] = some x) :
    ∃ L : Rats, RatS w v L ∧ (∀ k, k < L.q → (Lit.int .i64 (L.n k)).wf = true ∧ (Lit.int .i64 (L.d k)).wf = true) ∧ L.q ≤ 9223372036854775807 := by
  rcases open_ratsQ Tryz.underlying27 Tryz.underlying140 (by kernel_rfl) rfl rfl (by kernel_rfl) (by kernel_rfl) Tryz.underlying3 Tryz.underlying3 h with hcs | ⟨a, len, cap, L, hcs, hq, hl, hc⟩
  · simp at hcs
    subst hcs
    exact ⟨⟨0, fun _ => 0, fun _ => 0⟩, ⟨_, _, rfl, fun _ => ⟨rfl, rfl⟩, fun k hk => absurd hk (Nat.not_lt_zero _)⟩, fun k hk => absurd hk (Nat.not_lt_zero _), by decide⟩
  · simp at hcs
    subst hcs
    refine ⟨L, ⟨some a, cap, by rw [hq], fun h => (by cases h), fun k hk => ?_⟩, fun k hk => (hc k (by omega)).2.2, by omega⟩
    obtain ⟨bk, off, spot⟩ := a
    obtain ⟨a1, a2, _, _⟩ := hc k (by omega)
    have hspot : spot = none := by simpa [Addr.add] using World.cell?_spot (hc 0 (by omega)).1
    subst hspot
    rw [Go.WideShapes.add_plain] at a1 a2
    exact ⟨bk, off, rfl, a1, by rw [Nat.add_assoc]; exact a2⟩
theorem open_asked {H : Type} {enc : TypeId × Value → H} {w : World} {r : Reach} {b0 base : Nat} {spare : Nat → Bool} {held : Bool} {v : Value} {d : DataW H} {p : List MemPlace}
    (hv : Value.okWide Tryz.prog w r b0 29 v) (h : DataW.Trod enc Tryz.prog w base spare held 29 v d p) :
    ∃ c y l L, v = .agg #[c, y] ∧ (SliceAt w c l ∧ (∀ z ∈ l, (Lit.int .i32 z).wf = true) ∧ l.length ≤ 9223372036854775807) ∧ (RatS w y L ∧ (∀ k, k < L.q → (Lit.int .i64 (L.n k)).wf = true ∧ (Lit.int .i64 (L.d k)).wf = true) ∧ L.q ≤ 9223372036854775807) := by
  obtain ⟨c0, c1, y0, y1, m, rfl, _, _, g0, g1⟩ := Joins.open_agg2 Tryz.underlying29 (by kernel_rfl) (by kernel_rfl) hv h
  obtain ⟨l, h1⟩ := open_bs g0
  obtain ⟨L, h2⟩ := open_ratsV g1
  exact ⟨c0, c1, l, L, rfl, h1, h2⟩
end Go.Proofs.YtnfkmpickmonoaaGreat
