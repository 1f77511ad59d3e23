/-
  A slice of slices of nodes that is handed over, opened; the walk of ExprLists.
-/
import Derived.Test.YtgidlgmnkjoofaaDoorEv5
import Derived.Test.YtgidlgmnkjoofaaDoorQa
import Derived.Test.YtgidlgmnkjoofaaDoorRows
namespace Go.Proofs.YtgidlgmnkjoofaaDoor
open Go.ChangeShapes Go.WideShapes Go.ChangeAt Go.RowKit Go.Deep
set_option linter.unusedVariables false
theorem bulk_pos {H : Type} (d : DataW H) : 1 ≤ Rows.uptoBulk d := by
  cases d
  case lit l => cases l <;> simp [Rows.uptoBulk]
  all_goals (rw [Rows.uptoBulk]; omega)
theorem bulk_len {H : Type} : ∀ ds : List (DataW H), ds.length ≤ Rows.uptoBulkAll ds
  | [] => by simp [Rows.uptoBulkAll]
  | d :: r => by
    have h1 := bulk_pos d
    have h2 := bulk_len r
    rw [Rows.uptoBulkAll, List.length_cons]
    omega
theorem open_nodes_any {H : Type} {enc : TypeId × Value → H} {w : World} {base : Nat} {spare : Nat → Bool} {held : Bool} {fuel : Nat} {cs : List Value} {x : DataW H × List MemPlace}
    (h : DataW.trod enc Tryd.prog w base spare held fuel 23 cs = some x) : ∃ ad len cap, cs = (Value.slice ad len cap).cells.toList := by
  rcases open_slice Tryd.underlying23 h with ⟨h0, _⟩ | ⟨a, len, cap, m, n, D, Pl, h0, _⟩
  · exact ⟨_, _, _, h0⟩
  · exact ⟨_, _, _, h0⟩
def SlS (w : World) (v : Value) (L : List Sl) : Prop := ∃ ad cap, v = .slice ad L.length cap ∧ RowV w ad (L.flatMap SlC)
theorem sum_bulk {H : Type} (D : Nat → DataW H) : ∀ (L : List Sl) (f : Nat), (∀ i (h : i < L.length), (L[i]'h).2.length + 1 ≤ Rows.uptoBulk (D (f + i))) → (L.map (·.2)).flatten.length + L.length ≤ Rows.uptoBulkAll ((List.range L.length).map (fun i => D (f + i)))
  | [], f, h => by simp
  | e :: r, f, h => by
    have h0 := h 0 (by simp)
    have ih := sum_bulk D r (f + 1) (fun i hi => by
      have := h (i + 1) (by simp; omega)
      rw [show f + 1 + i = f + (i + 1) by omega]
      simpa using this)
    have er : (List.range (e :: r).length).map (fun i => D (f + i)) = D f :: (List.range r.length).map (fun i => D (f + 1 + i)) := by
      rw [List.length_cons, List.range_succ_eq_map, List.map_cons, List.map_map]
      congr 1
      apply List.map_congr_left
      intro i _
      show D (f + (i + 1)) = D (f + 1 + i)
      congr 1
      omega
    rw [er, Rows.uptoBulkAll, List.map_cons, List.flatten_cons, List.length_append, List.length_cons]
    simp at h0
    omega
theorem open_nodess {H : Type} {enc : TypeId × Value → H} {w : World} {base : Nat} {spare : Nat → Bool} {held : Bool} {fuel : Nat} {ad : Option Addr} {len cap : Nat} {x : DataW H × List MemPlace}
    (h : DataW.trod enc Tryd.prog w base spare held fuel 22 (Value.slice ad len cap).cells.toList = some x) :
    ∃ L : List Sl, SlS w (.slice ad len cap) L ∧ (∀ e ∈ L, RowV w e.1.1 (e.2.flatMap NodeC) ∧ ∀ n ∈ e.2, n.1 < 256 ∧ inR n.2) ∧ (L.map (·.2)).flatten.length + L.length ≤ Rows.uptoBulk x.1 := by
  rcases open_row (α := Sl) (f := SlC) (s := 1) (ok := fun e d => (RowV w e.1.1 (e.2.flatMap NodeC) ∧ ∀ n ∈ e.2, n.1 < 256 ∧ inR n.2) ∧ e.2.length + 1 ≤ Rows.uptoBulk d) Tryd.underlying22 (by kernel_rfl) (by decide) (fun _ => rfl) (by
    intro n cs' y hy hl
    obtain ⟨a1, l1, c1, rfl⟩ := open_nodes_any hy
    obtain ⟨L, ⟨a2, c2, e2, hr⟩, hok, hlen, hd⟩ := open_nodes hy
    injection e2 with q1 q2 q3
    subst q1 q2 q3
    refine ⟨((a1, c1), L), rfl, ⟨hr, hok⟩, ?_⟩
    rcases hd with ⟨_, h0⟩ | ⟨ds, ss, h0, h1⟩
    · rw [h0]
      have := bulk_pos y.1
      omega
    · rw [h0, Rows.uptoBulk]
      have := bulk_len ds
      show L.length + 1 ≤ _
      omega) h with ⟨h0, h1⟩ | ⟨ad', len', cap', L, D, ss, h0, hL, hR, hx, hok⟩
  · simp [Value.cells] at h0
    obtain ⟨rfl, rfl, rfl⟩ := h0
    exact ⟨[], ⟨_, _, rfl, RowV.nil _ _⟩, fun n hn => (by cases hn), by simp⟩
  · simp [Value.cells] at h0
    obtain ⟨rfl, rfl, rfl⟩ := h0
    refine ⟨L, ⟨_, _, by rw [hL], hR⟩, fun n hn => ?_, ?_⟩
    · obtain ⟨i, hi, rfl⟩ := List.getElem_of_mem hn
      exact (hok i hi).1
    · have := sum_bulk D L 0 (fun i hi => by rw [Nat.zero_add]; exact (hok i hi).2)
      rw [show (fun i => D (0 + i)) = D from funext fun i => by rw [Nat.zero_add]] at this
      rw [hx, Rows.uptoBulk, ← hL]
      omega
theorem exprLists.walk (v0 : Value) (ls : List Sl) (w : World) (hT : OpsT w) (hP : Pow w) (h0 : SlS w v0 ls) (wf0 : ∀ e ∈ ls, RowV w e.1.1 (e.2.flatMap NodeC) ∧ ∀ n ∈ e.2, n.1 < 256 ∧ inR n.2) (up0 : (ls.map (·.2)).flatten.length + ls.length ≤ 1048576) :
    Calls Tryd.prog 3 #[v0] w fun e w' => e = .returned (.bool true) ∧ Below w.heap.size w w' := by
  obtain ⟨ad0, c0, rfl, r0⟩ := h0
  exact exprLists.inner ad0 c0 ls w hT hP r0 (fun e he => (wf0 e he).1) (fun e he n hn => ((wf0 e he).2 n hn).1) (by omega)
end Go.Proofs.YtgidlgmnkjoofaaDoor
