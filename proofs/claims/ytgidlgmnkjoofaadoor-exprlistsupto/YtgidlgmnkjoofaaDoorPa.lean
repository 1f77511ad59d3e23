/-
  Nodes in memory; the table of the operators; expr.operatorOf.
-/
import Derived.Test.YtgidlgmnkjoofaaDoorChecked
import Derived.WalkKit
import Derived.WalkLawsBesides
import Derived.Deep.QuietTactic
import Derived.Deep.RegionHeld3
import Derived.Deep.DeepCutAuto
import Derived.BigQuiet
import Derived.Below
import Derived.WalkSmall
import Derived.WalkSpells
import Derived.Lib.LaidTab
namespace Go.Proofs.YtgidlgmnkjoofaaDoor
open Go.RowKit
set_option linter.unusedVariables false
theorem hideR {p : Prop} (h : p) : Hid p := h
theorem beyond {w w1 w2 : World} (h1 : Below w.heap.size w w1) (h2 : Below w1.heap.size w1 w2) : Below w.heap.size w w2 := h1.trans (h2.mono h1.size)
theorem kc {W w1 : World} (a : Addr) (v : Value) (hb : Below W.heap.size W w1) (h : W.cell? a = some v) : w1.cell? a = some v := (hb.cell (World.block_lt_of_cell? _ _ h)).trans h
theorem kf {W w1 : World} (a : Addr) (v : Value) (hb : Below W.heap.size W w1) (h : W.cell? a = some v) (g : W.frozen? a = false) : w1.frozen? a = false := (hb.frozen (World.block_lt_of_cell? _ _ h)).trans g
theorem single (w : World) (a : Obj) : Below w.heap.size w (w.alloc a) := (Below.refl _ _).alloc (Nat.le_refl _) _
/-- What there is to know of an operator: parts, the kind of these, its kind, its sign, how much it binds. -/
abbrev OpR := Nat × Nat × Nat × List UInt8 × Nat
def opTab : List OpR := [(0, 0, 0, [], 0), (0, 0, 1, [], 7), (0, 0, 1, [], 7), (1, 1, 1, [45], 6), (2, 1, 1, [32, 43, 32], 4), (2, 1, 1, [32, 45, 32], 4), (2, 1, 1, [32, 42, 32], 5), (0, 0, 2, [116, 114, 117, 101], 7), (2, 1, 2, [32, 60, 32], 3), (2, 1, 2, [32, 60, 61, 32], 3), (2, 1, 2, [32, 61, 61, 32], 3), (2, 1, 2, [32, 33, 61, 32], 3), (1, 2, 2, [33], 7), (2, 2, 2, [32, 38, 38, 32], 2), (2, 2, 2, [32, 124, 124, 32], 1)]
def opR (o : Nat) : OpR := opTab.getD o (0, 0, 0, [], 0)
def opCells (r : OpR) : List Value := [.int .i64 (r.1 : Int), .int .u8 (r.2.1 : Int), .int .u8 (r.2.2.1 : Int), .string ⟨r.2.2.2.1.toArray⟩, .int .i64 (r.2.2.2.2 : Int)]
def opData {H : Type} (r : OpR) : DataW H := .agg [.lit (.int .i64 (r.1 : Int)), .lit (.int .u8 (r.2.1 : Int)), .lit (.int .u8 (r.2.2.1 : Int)), .lit (.string r.2.2.2.1), .lit (.int .i64 (r.2.2.2.2 : Int))]
theorem cInt : Tryd.prog.cellsOf 3 = 1 := by kernel_rfl
theorem cKind : Tryd.prog.cellsOf 68 = 1 := by kernel_rfl
theorem cStr : Tryd.prog.cellsOf 9 = 1 := by kernel_rfl
theorem cOper : Tryd.prog.cellsOf 126 = 5 := by kernel_rfl
theorem cOpers : Tryd.prog.cellsOf 144 = 75 := by kernel_rfl
theorem one_of {l : List Value} {v : Value} {k : Nat} (h : (l.drop k).take 1 = [v]) : l[k]? = some v := by
  have := congrArg (·[0]?) h
  simpa [List.getElem?_take, List.getElem?_drop] using this
set_option maxRecDepth 100000 in
/-- An operator's five cells. -/
theorem cells_of_op {H : Type} {enc : TypeId × Value → H} {w : World} {base : Nat} {sp : Nat → Bool} {held : Bool} {fuel : Nat} {cs : List Value} {r : OpR} {p : List MemPlace}
    (h : DataW.trod enc Tryd.prog w base sp held fuel 126 cs = some (opData r, p)) : cs = opCells r := by
  obtain ⟨xs, n, rfl, hx, hl, hxl, hf⟩ := DataW.trod_struct Tryd.underlying126 h
  rw [cOper] at hl
  have f0 : DataW.trod enc Tryd.prog w base sp held n 3 ((cs.drop 0).take (Tryd.prog.cellsOf 3)) = xs[0]? := hf 0 _ rfl
  have f1 : DataW.trod enc Tryd.prog w base sp held n 68 ((cs.drop 1).take (Tryd.prog.cellsOf 68)) = xs[1]? := hf 1 _ rfl
  have f2 : DataW.trod enc Tryd.prog w base sp held n 68 ((cs.drop 2).take (Tryd.prog.cellsOf 68)) = xs[2]? := hf 2 _ rfl
  have f3 : DataW.trod enc Tryd.prog w base sp held n 9 ((cs.drop 3).take (Tryd.prog.cellsOf 9)) = xs[3]? := hf 3 _ rfl
  have f4 : DataW.trod enc Tryd.prog w base sp held n 3 ((cs.drop 4).take (Tryd.prog.cellsOf 3)) = xs[4]? := hf 4 _ rfl
  rw [cInt] at f0 f4
  rw [cKind] at f1 f2
  rw [cStr] at f3
  have hd : xs.map (·.1) = [.lit (.int .i64 (r.1 : Int)), .lit (.int .u8 (r.2.1 : Int)), .lit (.int .u8 (r.2.2.1 : Int)), .lit (.string r.2.2.2.1), .lit (.int .i64 (r.2.2.2.2 : Int))] := by
    have := congrArg Prod.fst hx
    simp only [opData] at this
    injection this with q
    exact q.symm
  match xs, hd, f0, f1, f2, f3, f4 with
  | [x0, x1, x2, x3, x4], hd, f0, f1, f2, f3, f4 =>
    simp only [List.map_cons, List.map_nil, List.cons.injEq, and_true] at hd
    obtain ⟨d0, d1, d2, d3, d4⟩ := hd
    obtain ⟨n0, e0, q0, _⟩ := DataW.trod_int Tryd.underlying3 f0
    obtain ⟨n1, e1, q1, _⟩ := DataW.trod_int Tryd.underlying68 f1
    obtain ⟨n2, e2, q2, _⟩ := DataW.trod_int Tryd.underlying68 f2
    obtain ⟨n3, e3, q3, _⟩ := DataW.trod_string Tryd.underlying9 f3
    obtain ⟨n4, e4, q4, _⟩ := DataW.trod_int Tryd.underlying3 f4
    subst q0 q1 q2 q3 q4
    simp only [DataW.lit.injEq, Lit.int.injEq, Lit.string.injEq, true_and] at d0 d1 d2 d3 d4
    have g0 := one_of e0
    have g1 := one_of e1
    have g2 := one_of e2
    have g3 := one_of e3
    have g4 := one_of e4
    match cs, hl with
    | [c0, c1, c2, c3, c4], _ =>
      simp at g0 g1 g2 g3 g4
      subst g0 g1 g2 g3 g4 d0 d1 d2 d4
      simp only [opCells, ← d3]
def opsData {H : Type} : DataW H := .agg (opTab.map opData)
/-- The operators lie in their variable. -/
def OpsT (W : World) : Prop := (∀ o (h : o < 15) j (hj : j < 5), W.cell? ⟨0, o * 5 + j, none⟩ = (opCells (opTab[o]'h))[j]?) ∧ 0 < W.heap.size
theorem ops_later {W w : World} (h : OpsT W) (hb : Below W.heap.size W w) : OpsT w := ⟨fun o ho j hj => (hb.cell (p := ⟨0, o * 5 + j, none⟩) h.2).trans (h.1 o ho j hj), Nat.lt_of_lt_of_le h.2 hb.size⟩
theorem gOpers : Tryd.prog.globalNamed "gnomon/expr.operators" = some 0 := by kernel_rfl
theorem tOpers : (Tryd.prog.globals[0]?).map (·.type) = some 144 := by kernel_rfl
set_option maxRecDepth 100000 in
theorem ops_of {W : World} {rest : List (String × DataW Unit)} (h : laidMet Tryd.prog (("gnomon/expr.operators", opsData) :: rest) W) : OpsT W := by
  obtain ⟨ps, ⟨g', t', cs, fuel, p, q, hg', ht', hvar, hd, _, _⟩, _⟩ := h
  obtain rfl := Option.some.inj (gOpers.symm.trans hg')
  obtain rfl := Option.some.inj (tOpers.symm.trans ht')
  have hc : ∀ o (h : o < 15) j (hj : j < 5), W.cell? ⟨0, o * 5 + j, none⟩ = (opCells (opTab[o]'h))[j]? := by
    intro o ho j hj
    rw [World.var?_cell gOpers hvar (o * 5 + j)]
    cases fuel with
    | zero => simp [DataW.trod] at hd
    | succ fuel =>
      simp only [DataW.trod, Tryd.underlying144, cOper, cOpers] at hd
      split at hd
      · rename_i hl
        obtain ⟨xs, hm, hx⟩ := Option.map_eq_some_iff.1 hd
        have hxs : xs.map (·.1) = opTab.map opData := by
          have := congrArg Prod.fst hx
          simpa [opsData] using this
        obtain ⟨b, hb, hf⟩ := Lib.mapM_at hm o o (by simp [ho])
        have h2 : (xs.map (·.1))[o]? = some b.1 := by simp [hb]
        rw [hxs, List.getElem?_map, List.getElem?_eq_getElem (show o < opTab.length from ho)] at h2
        simp only [Option.map_some, Option.some.injEq] at h2
        have this := cells_of_op (r := opTab[o]'ho) (p := b.2) (by rw [hf]; exact congrArg some (Prod.ext h2.symm rfl))
        rw [← this, List.getElem?_take, List.getElem?_drop, if_pos hj]
        simp
      · cases hd
  exact ⟨hc, by
    have := hc 0 (by omega) 0 (by omega)
    exact World.block_lt_of_cell? W ⟨0, 0, none⟩ this⟩
abbrev opV (r : OpR) : Value := .agg #[.int .i64 (r.1 : Int), .int .u8 (r.2.1 : Int), .int .u8 (r.2.2.1 : Int), .string ⟨r.2.2.2.1.toArray⟩, .int .i64 (r.2.2.2.2 : Int)]
theorem opR_out (o : Nat) (h : 15 ≤ o) : opR o = (0, 0, 0, [], 0) := by
  unfold opR
  rw [List.getD, List.getElem?_eq_none (show opTab.length ≤ o from h)]
  rfl
theorem opR_in (o : Nat) (h : o < 15) : opR o = opTab[o]'h := by
  unfold opR
  rw [List.getD, List.getElem?_eq_getElem (show o < opTab.length from h)]
  rfl
set_option maxRecDepth 100000 in
theorem operatorOf_any (o : Nat) (ho : o < 256) (w : World) (hT : OpsT w) : Calls Tryd.prog 58 #[.int .u8 (o : Int)] w fun e w' => e = .returned (opV (opR o)) ∧ Below w.heap.size w w' := by
  have w8 : IntKind.i64.wrap (o : Int) = (o : Int) := by rw [IntKind.wrap_i64]; omega
  by_cases c : o < 15
  · rw [opR_in o c]
    have t0 := hT.1 o c 0 (by omega)
    have t1 := hT.1 o c 1 (by omega)
    have t2 := hT.1 o c 2 (by omega)
    have t3 := hT.1 o c 3 (by omega)
    have t4 := hT.1 o c 4 (by omega)
    have lt := hT.2
    generalize opTab[o]'c = r at *
    obtain ⟨p, t, k, s, b⟩ := r
    simp only [opCells, List.getElem?_cons_zero, List.getElem?_cons_succ] at t0 t1 t2 t3 t4
    rw [Nat.add_zero] at t0
    clear hT
    have b1 : (o : Int) < 15 := by omega
    have b0 : (0 : Int) ≤ (o : Int) := by omega
    go_enter Tryd.func58, Tryd.ntmps58
    go_wp2_with fail
    exact bodyPost_ret (by simp [results, Tryd.results58, go_sem]) rfl ⟨rfl, single _ _⟩
  · rw [opR_out o (by omega)]
    have b1 : ¬ (o : Int) < 15 := by omega
    clear hT
    go_enter Tryd.func58, Tryd.ntmps58
    go_wp2_with fail
    exact bodyPost_ret (by simp [results, Tryd.results58, go_sem]) rfl ⟨rfl, single _ _⟩
end Go.Proofs.YtgidlgmnkjoofaaDoor
