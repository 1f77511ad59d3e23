/-
  TopFollows: what is handed in, opened.
-/
import Derived.Test.YtjanibholjimkaaQ52
namespace Go.Proofs.Ytjanibholjimkaa
open Go.RowKit Go.Shelf Go.ChangeShapes Go.WideShapes Go.ChangeAt Go.Deep
set_option linter.unusedVariables false
set_option maxRecDepth 100000
theorem i64_of {x : Int} (h : (Lit.int .i64 x).wf = true) : I64 x := by
  have h : IntKind.i64.min ≤ x ∧ x ≤ 9223372036854775807 := by simpa [Lit.wf, go_sem] using h
  have e : IntKind.i64.min = -9223372036854775808 := by decide
  exact ⟨by omega, h.2⟩
theorem open_deeds {H : Type} {enc : TypeId × Value → H} {w : World} {base : Nat} {spare : Nat → Bool} {held : Bool} {fuel : Nat} {ad : Option Addr} {len cap : Nat} {x : DataW H × List MemPlace}
    (h : DataW.trod enc Try.prog w base spare held fuel 22 [.slice ad len cap] = some x) :
    ∃ L : Deeds, (∀ k, k < len → ∃ cb off, ad = some ⟨cb, off, none⟩ ∧ w.cell? ⟨cb, off + k * 7, none⟩ = some (.int .i64 (L.k k)) ∧ w.cell? ⟨cb, off + k * 7 + 1, none⟩ = some (.int .i64 (L.n k)) ∧ w.cell? ⟨cb, off + k * 7 + 2, none⟩ = some (.int .i64 (L.d k)) ∧ w.cell? ⟨cb, off + k * 7 + 3, none⟩ = some (.int .i64 (L.i k)) ∧ w.cell? ⟨cb, off + k * 7 + 4, none⟩ = some (.int .i64 (L.j k)) ∧ w.cell? ⟨cb, off + k * 7 + 5, none⟩ = some (.int .i64 (L.m k)) ∧ w.cell? ⟨cb, off + k * 7 + 6, none⟩ = some (.int .i32 (L.b k))) ∧
      (∀ k, k < len → I64 (L.n k) ∧ I64 (L.d k) ∧ I64 (L.i k) ∧ I64 (L.j k) ∧ I64 (L.m k) ∧ -2147483648 ≤ L.b k ∧ L.b k ≤ 2147483647) ∧ len ≤ 9223372036854775807 := by
  rcases open_slice Try.underlying22 h with ⟨h0, _⟩ | ⟨a, len', cap', m, n, D, Pl, hc, hb, hl, hm, hmm, hx', hx⟩
  · simp at h0
    obtain ⟨rfl, rfl, rfl⟩ := h0
    exact ⟨⟨0, fun _ => 0, fun _ => 0, fun _ => 0, fun _ => 0, fun _ => 0, fun _ => 0, fun _ => 0⟩, fun k hk => absurd hk (Nat.not_lt_zero _), fun k hk => absurd hk (Nat.not_lt_zero _), by decide⟩
  · simp at hc
    obtain ⟨rfl, rfl, rfl⟩ := hc
    have hlm : len ≤ m := by rw [hmm]; split <;> omega
    have ce : Try.prog.cellsOf 34 = 7 := by kernel_rfl
    have cI : Try.prog.cellsOf 3 = 1 := by kernel_rfl
    have cR : Try.prog.cellsOf 30 = 2 := by kernel_rfl
    have cB : Try.prog.cellsOf 32 = 1 := by kernel_rfl
    have c64 : Try.prog.cellsOf 2 = 1 := by kernel_rfl
    have each : ∀ i, i < len → ∃ q : Int × Int × Int × Int × Int × Int × Int, (w.cell? (a.add (i * 7)) = some (.int .i64 q.1) ∧ w.cell? (a.add (i * 7 + 1)) = some (.int .i64 q.2.1) ∧ w.cell? (a.add (i * 7 + 2)) = some (.int .i64 q.2.2.1) ∧ w.cell? (a.add (i * 7 + 3)) = some (.int .i64 q.2.2.2.1) ∧ w.cell? (a.add (i * 7 + 4)) = some (.int .i64 q.2.2.2.2.1) ∧ w.cell? (a.add (i * 7 + 5)) = some (.int .i64 q.2.2.2.2.2.1) ∧ w.cell? (a.add (i * 7 + 6)) = some (.int .i32 q.2.2.2.2.2.2)) ∧
        I64 q.2.1 ∧ I64 q.2.2.1 ∧ I64 q.2.2.2.1 ∧ I64 q.2.2.2.2.1 ∧ I64 q.2.2.2.2.2.1 ∧ -2147483648 ≤ q.2.2.2.2.2.2 ∧ q.2.2.2.2.2.2 ≤ 2147483647 := by
      intro i hi
      obtain ⟨cs', h1, h2⟩ := hx i (by omega)
      rw [ce] at h1
      obtain ⟨_, hlen, hcell⟩ := World.cells?_some h1
      obtain ⟨xs, n', _, hxx, hl', hlen', hf⟩ := DataW.trod_struct Try.underlying34 h2
      have ex : ∀ i, i < 6 → ∃ y, xs[i]? = some y := fun i hi => ⟨_, List.getElem?_eq_getElem (by rw [hlen']; exact hi)⟩
      obtain ⟨y0, hy0⟩ := ex 0 (by omega)
      obtain ⟨y1, hy1⟩ := ex 1 (by omega)
      obtain ⟨y2, hy2⟩ := ex 2 (by omega)
      obtain ⟨y3, hy3⟩ := ex 3 (by omega)
      obtain ⟨y4, hy4⟩ := ex 4 (by omega)
      obtain ⟨y5, hy5⟩ := ex 5 (by omega)
      have g0 := hf 0 _ rfl
      have g1 := hf 1 _ rfl
      have g2 := hf 2 _ rfl
      have g3 := hf 3 _ rfl
      have g4 := hf 4 _ rfl
      have g5 := hf 5 _ rfl
      rw [hy0] at g0
      rw [hy1] at g1
      rw [hy2] at g2
      rw [hy3] at g3
      rw [hy4] at g4
      rw [hy5] at g5
      match cs', hlen with
      | [v0, v1, v2, v3, v4, v5, v6], _ =>
        simp [cI, cR, cB] at g0 g1 g2 g3 g4 g5
        obtain ⟨u0, u1, k, -, -, i0, i1⟩ := trod_struct2 Try.underlying30 g1
        simp [c64] at i0 i1
        obtain ⟨z0, e0, _, wf0⟩ := DataW.trod_int Try.underlying3 g0
        obtain ⟨z1, e1, _, wf1⟩ := DataW.trod_int Try.underlying2 i0
        obtain ⟨z2, e2, _, wf2⟩ := DataW.trod_int Try.underlying2 i1
        obtain ⟨z3, e3, _, wf3⟩ := DataW.trod_int Try.underlying3 g2
        obtain ⟨z4, e4, _, wf4⟩ := DataW.trod_int Try.underlying3 g3
        obtain ⟨z5, e5, _, wf5⟩ := DataW.trod_int Try.underlying3 g4
        obtain ⟨z6, e6, _, wf6⟩ := DataW.trod_int Try.underlying32 g5
        have k0 := hcell 0 (by omega)
        have k1 := hcell 1 (by omega)
        have k2 := hcell 2 (by omega)
        have k3 := hcell 3 (by omega)
        have k4 := hcell 4 (by omega)
        have k5 := hcell 5 (by omega)
        have k6 := hcell 6 (by omega)
        rw [add_add] at k0 k1 k2 k3 k4 k5 k6
        simp at e0 e1 e2 e3 e4 e5 e6
        subst e0 e1 e2 e3 e4 e5 e6
        exact ⟨(z0, z1, z2, z3, z4, z5, z6), ⟨by simpa using k0, by simpa using k1, by simpa using k2, by simpa using k3, by simpa using k4, by simpa using k5, by simpa using k6⟩, i64_of wf1, i64_of wf2, i64_of wf3, i64_of wf4, i64_of wf5, (bounds_i32 wf6).1, (bounds_i32 wf6).2⟩
    obtain ⟨q, hq⟩ := choose_lt each
    refine ⟨⟨len, fun k => (q k).1, fun k => (q k).2.1, fun k => (q k).2.2.1, fun k => (q k).2.2.2.1, fun k => (q k).2.2.2.2.1, fun k => (q k).2.2.2.2.2.1, fun k => (q k).2.2.2.2.2.2⟩, fun k hk => ?_, fun k hk => (hq k hk).2, by unfold maxLen at hm; omega⟩
    obtain ⟨bk, off, spot⟩ := a
    obtain ⟨⟨a0, a1, a2, a3, a4, a5, a6⟩, -⟩ := hq k hk
    have hspot : spot = none := by simpa [Addr.add] using World.cell?_spot (hq 0 (by omega)).1.1
    subst hspot
    rw [Go.WideShapes.add_plain] at a0 a1 a2 a3 a4 a5 a6
    exact ⟨bk, off, rfl, a0, by rw [Nat.add_assoc]; exact a1, by rw [Nat.add_assoc]; exact a2, by rw [Nat.add_assoc]; exact a3, by rw [Nat.add_assoc]; exact a4, by rw [Nat.add_assoc]; exact a5, by rw [Nat.add_assoc]; exact a6⟩
end Go.Proofs.Ytjanibholjimkaa
