/-
  point.Delays.
-/
import Derived.Test.YteifpplemohdcaaGreatDoorQ30
namespace Go.Proofs.YteifpplemohdcaaGreatDoor
open Go.RowKit Go.Shelf
set_option linter.unusedVariables false
set_option maxRecDepth 100000
attribute [local go_sem] Oper.semAt_some
def endUp (n : Nat) (c : Row) (L : Rats) (k : Nat) : End := ⟨valV (c k), (aheadL L).n (k / (n + 1)), (aheadL L).d (k / (n + 1)), valR (c k)⟩
def endFrom (n : Nat) (c : Row) (L : Rats) (k : Nat) : End := ⟨-valV (c k), (aheadL L).n (k % (n + 1)), (aheadL L).d (k % (n + 1)), valR (c k)⟩
/-- What a cell does to a span under way. -/
def dStep (n : Nat) (c : Row) (L : Rats) (s : DSt) (k : Nat) : DSt :=
  if finB (c k) = true then
    (if ¬ k / (n + 1) = 0 ∧ k % (n + 1) = 0 then upS s (endUp n c L k)
     else if k / (n + 1) = 0 ∧ ¬ k % (n + 1) = 0 then fromS s (endFrom n c L k)
     else s)
  else s
def badK (n : Nat) (c : Row) (L : Rats) (k : Nat) : Bool := finB (c k) && !decide (¬ k / (n + 1) = 0 ∧ k % (n + 1) = 0) && !decide (k / (n + 1) = 0 ∧ ¬ k % (n + 1) = 0) && !keepAt n c L k
def d0 : DSt := ⟨⟨0, 0, 1, true⟩, ⟨0, 0, 0, false⟩, true⟩
def dEnd (n m : Nat) (c : Row) (L : Rats) : DSt := (List.finRange m).foldl (fun s k => dStep n c L s k.val) d0
abbrev spanZ : Value := spanV 0 0 0 0 false false false
/-- What Delays tells. -/
def delB (n m : Nat) (c : Row) (L : Rats) : Value × Bool := if (List.range m).any (badK n c L) then (spanZ, false) else if noneB (dEnd n m c L) then (spanZ, false) else spanS (dEnd n m c L)
structure OkS (s : DSt) : Prop where
  lo : OkE s.lo
  hi : s.fv = false → OkE s.hi
theorem okS0 : OkS d0 := ⟨⟨by decide, by decide, by decide, by decide, by decide⟩, fun h => by cases h⟩
theorem valV_bd (b : Int) : -300000000 ≤ valV b ∧ valV b ≤ 300000000 := by
  unfold valV
  split
  · rename_i h
    simp only [finB, decide_eq_true_eq] at h
    omega
  · omega
/-- All of a valuation, 0 ahead, is right. -/
def OkL (n : Nat) (L : Rats) : Prop := ∀ i, i ≤ n → I64 ((aheadL L).n i) ∧ I64 ((aheadL L).d i) ∧ okR ((aheadL L).n i) ((aheadL L).d i) = true
theorem okL_of {n : Nat} {L : Rats} (hn : n ≤ 8) (hI : RatI L) (hf : fitB L n = true) : OkL n L := fun i hi => by
  have hok := (fitB_iff hn).1 hf
  unfold aheadL
  by_cases e : i = 0
  · simp only [e, if_true]
    exact ⟨by decide, by decide, by decide⟩
  · simp only [e, if_false]
    have h1 := hI (i - 1) (by omega)
    exact ⟨h1.1, h1.2, hok.2 (i - 1) (by omega)⟩
theorem okE_up {n : Nat} {c : Row} {L : Rats} (h : OkL n L) {k : Nat} (hk : k / (n + 1) ≤ n) : OkE (endUp n c L k) :=
  ⟨(h _ hk).1, (h _ hk).2.1, (h _ hk).2.2, by have := valV_bd (c k); show -1000000000 ≤ valV (c k); omega, by have := valV_bd (c k); show valV (c k) ≤ 1000000000; omega⟩
theorem okE_from {n : Nat} {c : Row} {L : Rats} (h : OkL n L) {k : Nat} (hk : k % (n + 1) ≤ n) : OkE (endFrom n c L k) :=
  ⟨(h _ hk).1, (h _ hk).2.1, (h _ hk).2.2, by have := valV_bd (c k); show -1000000000 ≤ -valV (c k); omega, by have := valV_bd (c k); show -valV (c k) ≤ 1000000000; omega⟩
theorem okS_up {s : DSt} {e : End} (h : OkS s) (he : OkE e) : OkS (upS s e) := by
  unfold upS
  split
  · exact ⟨h.lo, fun _ => he⟩
  · split
    · exact ⟨h.lo, fun _ => he⟩
    · exact h
theorem okS_from {s : DSt} {e : End} (h : OkS s) (he : OkE e) : OkS (fromS s e) := by
  unfold fromS
  split
  · exact ⟨he, h.hi⟩
  · exact h
/-- What lies in memory. -/
structure DI (w : World) (L : Rats) (g q cap' B6 B7 : Nat) (s : DSt) (W : World) : Prop where
  ok : OkS s
  d : DAt W B7 s
  r : W.heap[w.heap.size]? = some (.cells #[.int .i64 0, .int .i64 0, .int .i64 0, .int .i64 0, .bool false, .bool false, .bool false] 46)
  f : Boxed W (w.heap.size + 1) 4 (.bool false)
  a : Boxed W B6 22 (.slice (some ⟨g, 0, none⟩) q cap')
  row : RowR W g 0 (aheadL L)
  lt : B7 + 1 < W.heap.size
  bl : Below w.heap.size w W
theorem DI.past {w : World} {L : Rats} {g q cap' B6 B7 : Nat} {s : DSt} {W W' : World} (h : DI w L g q cap' B6 B7 s W) (hb : Below W.heap.size W W') : DI w L g q cap' B6 B7 s W' :=
  ⟨h.ok, h.d.past hb, (hb.block _ (Array.getElem?_eq_some_iff.1 h.r).1).trans h.r, (hb.block _ h.f.lt).trans h.f, (hb.block _ h.a.lt).trans h.a, h.row.past hb, Nat.lt_of_lt_of_le h.lt hb.size, beyond h.bl hb⟩
theorem grow_cell {W W' : World} {B b k : Nat} {v : Value} (hg : W.grownBy W' (some B)) (h : W.cell? ⟨b, k, none⟩ = some v) (hne : b ≠ B) : W'.cell? ⟨b, k, none⟩ = some v := by
  obtain ⟨o, ho, hi⟩ := cells_of_cell h
  rw [World.cell?_of_block (a := ⟨b, k, none⟩) (hg.block b (Array.getElem?_eq_some_iff.1 ho).1 (fun e => hne (by injection e)))]
  exact h
theorem DI.grow {w : World} {L : Rats} {g q cap' B6 B7 : Nat} {s s' : DSt} {W W' : World} (h : DI w L g q cap' B6 B7 s W) (hg : W.grownBy W' (some B7)) (hd : DAt W' B7 s') (ho : OkS s') (n1 : w.heap.size + 1 < B7) (n2 : B6 < B7) (n3 : g < B7) : DI w L g q cap' B6 B7 s' W' :=
  ⟨ho, hd, (hg.block _ (Array.getElem?_eq_some_iff.1 h.r).1 (fun e => by injection e with e; omega)).trans h.r, (hg.block _ h.f.lt (fun e => by injection e with e; omega)).trans h.f, (hg.block _ h.a.lt (fun e => by injection e with e; omega)).trans h.a, fun k hk => ⟨grow_cell hg (h.row k hk).1 (by omega), grow_cell hg (h.row k hk).2 (by omega)⟩, Nat.lt_of_lt_of_le h.lt hg.size, ⟨hg.os.trans h.bl.os, hg.tape.trans h.bl.tape, hg.output.trans h.bl.output, Nat.le_trans h.bl.size hg.size, fun k hk => (hg.block k (Nat.lt_of_lt_of_le hk h.bl.size) (fun e => by injection e with e; omega)).trans (h.bl.block k hk)⟩⟩
theorem grow_from {W W' : World} {B7 B : Nat} {s : DSt} (hd : DAt W B7 s) (hg : W.grownBy W' (some B7)) : KeepsFrom B W W' := ⟨hg.size, fun k o _ hk ho => (hg.block k (Array.getElem?_eq_some_iff.1 hk).1 (fun e => by
    injection e with e
    subst e
    rw [show W.heap[k]? = _ from hd] at hk
    cases hk
    cases ho)).trans hk⟩
theorem grow_keepB {W W' : World} {n₀ B7 : Nat} (hg : W.grownBy W' (some B7)) (hn : n₀ ≤ B7) (hw : n₀ ≤ W.heap.size) : KeepB n₀ (some B7) W W' :=
  ⟨⟨hg.os, hg.tape, hg.output, hg.size, fun k hk => hg.block k (by omega) (fun e => by injection e with e; omega)⟩, fun b o hb _ hne => (hg.block b (Array.getElem?_eq_some_iff.1 hb).1 hne).trans hb⟩
theorem dI_own {β : Type} (w : World) (L : Rats) (g q cap' B6 B7 : Nat) (f : β → DSt) (B : Nat) (hB : w.heap.size ≤ B) : OwnFrom B (fun (s : β) W => DI w L g q cap' B6 B7 (f s) W) := fun s X Y row hs hg hr => by
  have hr' : ∀ r, row = some r → ∃ o : Obj, X.heap[r]? = some o ∧ o.isCells = false := fun r e => (hr r e).2
  exact ⟨hs.ok, objs_own (β := Unit) _ _ _ () X Y row hs.d hg hr', objs_own (β := Unit) _ _ _ () X Y row hs.r hg hr', boxed_own _ _ (fun (_ : Unit) => _) () X Y row hs.f hg hr', boxed_own _ _ (fun (_ : Unit) => _) () X Y row hs.a hg hr', rowR_own (β := Unit) _ _ _ () X Y row hs.row hg hr', Nat.lt_of_lt_of_le hs.lt hg.size, ownFrom_below (β := Unit) (Nat.le_refl _) hB () X Y row hs.bl hg hr⟩
/-- The result's cells. -/
def ResZ (w W : World) : Prop := W.cell? ⟨w.heap.size, 0, none⟩ = some (.int .i64 0) ∧ W.cell? ⟨w.heap.size, 1, none⟩ = some (.int .i64 0) ∧ W.cell? ⟨w.heap.size, 2, none⟩ = some (.int .i64 0) ∧ W.cell? ⟨w.heap.size, 3, none⟩ = some (.int .i64 0) ∧ W.cell? ⟨w.heap.size, 4, none⟩ = some (.bool false) ∧ W.cell? ⟨w.heap.size, 5, none⟩ = some (.bool false) ∧ W.cell? ⟨w.heap.size, 6, none⟩ = some (.bool false) ∧ W.cell? ⟨w.heap.size + 1, 0, none⟩ = some (.bool false)
def DX (w : World) (n m : Nat) (c : Row) (L : Rats) (cd : Code) (pre : List (Fin m)) (W : World) : Prop := (cd = .ret ∧ (∃ x : Fin m, badK n c L x.val = true) ∧ ResZ w W) ∧ Below w.heap.size w W
theorem dX_own (w : World) (n m : Nat) (c : Row) (L : Rats) (cd : Code) (B : Nat) (hB : w.heap.size ≤ B) : OwnFrom B (DX w n m c L cd) :=
  OwnFrom.and (Own.from (fun pre X Y row hs hg hr => by
    obtain ⟨h1, h2, a0, a1, a2, a3, a4, a5, a6, a7⟩ := hs
    have k := fun i v (h : X.cell? ⟨w.heap.size, i, none⟩ = some v) => cell_own (β := Unit) w.heap.size i v () X Y row h hg hr
    exact ⟨h1, h2, k _ _ a0, k _ _ a1, k _ _ a2, k _ _ a3, k _ _ a4, k _ _ a5, k _ _ a6, cell_own (β := Unit) _ _ _ () X Y row a7 hg hr⟩) B) (ownFrom_below (Nat.le_refl _) hB)
theorem eight_cells (W : World) (x y : Nat) (h : ¬ y = x) (o0 o1 o2 o3 o4 o5 o6 o7 a0 a1 a2 a3 a4 a5 a6 a7 : Value) (c0 : W.cell? ⟨x, 0, none⟩ = some o0) (c1 : W.cell? ⟨x, 1, none⟩ = some o1) (c2 : W.cell? ⟨x, 2, none⟩ = some o2) (c3 : W.cell? ⟨x, 3, none⟩ = some o3) (c4 : W.cell? ⟨x, 4, none⟩ = some o4) (c5 : W.cell? ⟨x, 5, none⟩ = some o5) (c6 : W.cell? ⟨x, 6, none⟩ = some o6) (c7 : W.cell? ⟨y, 0, none⟩ = some o7) :
    let Y := (((((((W.setCell ⟨x, 0, none⟩ a0).setCell ⟨x, 1, none⟩ a1).setCell ⟨x, 2, none⟩ a2).setCell ⟨x, 3, none⟩ a3).setCell ⟨x, 4, none⟩ a4).setCell ⟨x, 5, none⟩ a5).setCell ⟨x, 6, none⟩ a6).setCell ⟨y, 0, none⟩ a7
    Y.cell? ⟨x, 0, none⟩ = some a0 ∧ Y.cell? ⟨x, 1, none⟩ = some a1 ∧ Y.cell? ⟨x, 2, none⟩ = some a2 ∧ Y.cell? ⟨x, 3, none⟩ = some a3 ∧ Y.cell? ⟨x, 4, none⟩ = some a4 ∧ Y.cell? ⟨x, 5, none⟩ = some a5 ∧ Y.cell? ⟨x, 6, none⟩ = some a6 ∧ Y.cell? ⟨y, 0, none⟩ = some a7 := by
  intro Y
  have h' : ¬ x = y := fun e => h e.symm
  refine ⟨?_, ?_, ?_, ?_, ?_, ?_, ?_, ?_⟩ <;> simp [Y, go_sem, *]
theorem eight_below {w W : World} (h : Below w.heap.size w W) (a0 a1 a2 a3 a4 a5 a6 a7 : Value) : Below w.heap.size w ((((((((W.setCell ⟨w.heap.size, 0, none⟩ a0).setCell ⟨w.heap.size, 1, none⟩ a1).setCell ⟨w.heap.size, 2, none⟩ a2).setCell ⟨w.heap.size, 3, none⟩ a3).setCell ⟨w.heap.size, 4, none⟩ a4).setCell ⟨w.heap.size, 5, none⟩ a5).setCell ⟨w.heap.size, 6, none⟩ a6).setCell ⟨w.heap.size + 1, 0, none⟩ a7) :=
  (seven_below h a0 a1 a2 a3 a4 a5 a6).setCell (p := ⟨w.heap.size + 1, 0, none⟩) (Nat.le_succ _) _
theorem eight_others (W : World) (x y : Nat) (a0 a1 a2 a3 a4 a5 a6 a7 : Value) : KeepsOthers W ((((((((W.setCell ⟨x, 0, none⟩ a0).setCell ⟨x, 1, none⟩ a1).setCell ⟨x, 2, none⟩ a2).setCell ⟨x, 3, none⟩ a3).setCell ⟨x, 4, none⟩ a4).setCell ⟨x, 5, none⟩ a5).setCell ⟨x, 6, none⟩ a6).setCell ⟨y, 0, none⟩ a7) :=
  (((((((KeepsOthers.setCell W _ _).trans (KeepsOthers.setCell _ _ _)).trans (KeepsOthers.setCell _ _ _)).trans (KeepsOthers.setCell _ _ _)).trans (KeepsOthers.setCell _ _ _)).trans (KeepsOthers.setCell _ _ _)).trans (KeepsOthers.setCell _ _ _)).trans (KeepsOthers.setCell _ _ _)
theorem res_zero {w W0 W : World} {n m : Nat} {c : Row} {L : Rats} {B : Nat} {pre : List (Fin m)} (hB : Below w.heap.size w W) (hk : KeepsFrom B W0 W) (c0 : W.cell? ⟨w.heap.size, 0, none⟩ = some (.int .i64 0)) (c1 : W.cell? ⟨w.heap.size, 1, none⟩ = some (.int .i64 0)) (c2 : W.cell? ⟨w.heap.size, 2, none⟩ = some (.int .i64 0)) (c3 : W.cell? ⟨w.heap.size, 3, none⟩ = some (.int .i64 0)) (c4 : W.cell? ⟨w.heap.size, 4, none⟩ = some (.bool false)) (c5 : W.cell? ⟨w.heap.size, 5, none⟩ = some (.bool false)) (c6 : W.cell? ⟨w.heap.size, 6, none⟩ = some (.bool false)) (c7 : W.cell? ⟨w.heap.size + 1, 0, none⟩ = some (.bool false)) (hx : ∃ x : Fin m, badK n c L x.val = true) :
    KeepsFrom B W0 ((((((((W.setCell ⟨w.heap.size, 0, none⟩ (.int .i64 0)).setCell ⟨w.heap.size, 1, none⟩ (.int .i64 0)).setCell ⟨w.heap.size, 2, none⟩ (.int .i64 0)).setCell ⟨w.heap.size, 3, none⟩ (.int .i64 0)).setCell ⟨w.heap.size, 4, none⟩ (.bool false)).setCell ⟨w.heap.size, 5, none⟩ (.bool false)).setCell ⟨w.heap.size, 6, none⟩ (.bool false)).setCell ⟨w.heap.size + 1, 0, none⟩ (.bool false)) ∧ DX w n m c L .ret pre ((((((((W.setCell ⟨w.heap.size, 0, none⟩ (.int .i64 0)).setCell ⟨w.heap.size, 1, none⟩ (.int .i64 0)).setCell ⟨w.heap.size, 2, none⟩ (.int .i64 0)).setCell ⟨w.heap.size, 3, none⟩ (.int .i64 0)).setCell ⟨w.heap.size, 4, none⟩ (.bool false)).setCell ⟨w.heap.size, 5, none⟩ (.bool false)).setCell ⟨w.heap.size, 6, none⟩ (.bool false)).setCell ⟨w.heap.size + 1, 0, none⟩ (.bool false)) :=
  ⟨hk.trans ((eight_others W w.heap.size (w.heap.size + 1) _ _ _ _ _ _ _ _).from _), ⟨rfl, hx, eight_cells W w.heap.size (w.heap.size + 1) (by omega) _ _ _ _ _ _ _ _ _ _ _ _ _ _ _ _ c0 c1 c2 c3 c4 c5 c6 c7⟩, eight_below hB _ _ _ _ _ _ _ _⟩
theorem spanS_shape (s : DSt) : ∃ a b c d e f g, (spanS s).1 = spanV a b c d e f g := by
  unfold spanS
  split
  · split
    · exact ⟨_, _, _, _, _, _, _, rfl⟩
    · split
      · exact ⟨_, _, _, _, _, _, _, rfl⟩
      · exact ⟨_, _, _, _, _, _, _, rfl⟩
  · exact ⟨_, _, _, _, _, _, _, rfl⟩
set_option maxHeartbeats 4000000 in
theorem delays_in (b n m q cap : Nat) (ad : Option Addr) (c : Row) (L : Rats) (w : World) (hn : n ≤ 8) (hm : m = (n + 1) * (n + 1)) (hz : ZoneAt w b n c) (hq : L.q = q) (hnil : ad = none → q = 0 ∧ cap = 0) (hV : RatV w ad L) (hI : RatI L) (hf : fitB L n = true) :
    CallsIn Fence.wide 6 Tryz.prog 19 #[.pointer (some ⟨b, 0, none⟩), .slice ad q cap] w fun e W' => e = .returned (.tuple #[(delB n m c L).1, .bool (delB n m c L).2]) ∧ Below w.heap.size w W' := by
  have q8 : L.q ≤ 8 := by have := (fitB_iff hn).1 hf; omega
  have HF := hideR (fun w hz hV => fits_any b n q cap ad c L w hz hq (by omega) hV hI)
  have HN := hideR (fun w hV => byNumber_any ad cap q L w hq (by omega) hnil hV)
  have HO := hideR (fun w => ratOf_any 0 w)
  rw [hf] at HF
  have HV := hideR hV
  have HZ := hideR hz
  have hok := okL_of hn hI hf
  have qn : L.q = n := ((fitB_iff hn).1 hf).1
  obtain ⟨o, ho⟩ : ∃ o, delB n m c L = o := ⟨_, rfl⟩
  rw [ho]
  have HOO := hideR ho
  clear hV hz ho
  refine callsIn_of_wp_marks Tryz.func19 rfl trivial ?_ rfl
  simp only [Tryz.ntmps19, List.size_toArray, List.length_cons, List.length_nil, Nat.reduceAdd, Nat.reduceSub, Array.replicate_succ, Array.replicate_zero, List.push_toArray, List.append_toArray, List.nil_append, List.cons_append]
  have cR : ((w.alloc (.cells #[.int .i64 0, .int .i64 0, .int .i64 0, .int .i64 0, .bool false, .bool false, .bool false] 46)).alloc (.cells #[.bool false] 4)).heap[w.heap.size]? = some (.cells #[.int .i64 0, .int .i64 0, .int .i64 0, .int .i64 0, .bool false, .bool false, .bool false] 46) := (Below.heap_alloc _ _ _ (by simp)).trans (World.alloc_heap_new w _)
  have cF := Boxed.new (w.alloc (.cells #[.int .i64 0, .int .i64 0, .int .i64 0, .int .i64 0, .bool false, .bool false, .bool false] 46)) 4 (.bool false)
  have B0 := two w (.cells #[.int .i64 0, .int .i64 0, .int .i64 0, .int .i64 0, .bool false, .bool false, .bool false] 46) (.cells #[.bool false] 4)
  simp only [World.size_alloc] at cF
  gi_wp2
  generalize (w.alloc (.cells #[.int .i64 0, .int .i64 0, .int .i64 0, .int .i64 0, .bool false, .bool false, .bool false] 46)).alloc (.cells #[.bool false] 4) = W0 at *
  refine ⟨trivial, (callsIn_wide.2 (HF.out W0 (HZ.out.past B0) (HV.out.later B0))).mono ?_⟩
  rintro e w1 ⟨rfl, hb1⟩
  replace cR := (hb1.block _ (Array.getElem?_eq_some_iff.1 cR).1).trans cR
  replace cF : Boxed w1 (w.heap.size + 1) 4 (.bool false) := (hb1.block _ cF.lt).trans cF
  replace B0 := beyond B0 hb1
  clear hb1 HF
  gi_wp2
  refine ⟨trivial, (callsIn_wide.2 (HN.out w1 (HV.out.later B0))).mono ?_⟩
  rintro e w2 ⟨⟨g, cap', rfl, g0, hrow⟩, hb2⟩
  replace cR := (hb2.block _ (Array.getElem?_eq_some_iff.1 cR).1).trans cR
  have lt1 : w.heap.size + 1 < w1.heap.size := cF.lt
  replace cF : Boxed w2 (w.heap.size + 1) 4 (.bool false) := (hb2.block _ cF.lt).trans cF
  replace B0 := beyond B0 hb2
  have gl : g < w2.heap.size := World.block_lt_of_cell? _ _ (hrow 0 (show 0 < L.q + 1 by omega)).1
  have lt2 : w.heap.size + 1 < w2.heap.size := cF.lt
  clear hb2 HN
  gi_wp2
  have c6 := Boxed.new w2 22 (.slice (some ⟨g, 0, none⟩) (q + 1) cap')
  have hb3 := single w2 (.cells #[.slice (some ⟨g, 0, none⟩) (q + 1) cap'] 22)
  have hs3 : (w2.alloc (.cells #[.slice (some ⟨g, 0, none⟩) (q + 1) cap'] 22)).heap.size = w2.heap.size + 1 := by simp
  generalize w2.alloc (.cells #[.slice (some ⟨g, 0, none⟩) (q + 1) cap'] 22) = W2 at *
  replace cR := (hb3.block _ (Array.getElem?_eq_some_iff.1 cR).1).trans cR
  replace cF : Boxed W2 (w.heap.size + 1) 4 (.bool false) := (hb3.block _ cF.lt).trans cF
  replace hrow := hrow.past hb3
  replace B0 := beyond B0 hb3
  refine ⟨trivial, (callsIn_wide.2 (HO.out W2)).mono ?_⟩
  rintro e w3 ⟨rfl, hb4⟩
  replace cR := (hb4.block _ (Array.getElem?_eq_some_iff.1 cR).1).trans cR
  replace cF : Boxed w3 (w.heap.size + 1) 4 (.bool false) := (hb4.block _ cF.lt).trans cF
  replace hrow := hrow.past hb4
  replace c6 : Boxed w3 w2.heap.size 22 (.slice (some ⟨g, 0, none⟩) (q + 1) cap') := (hb4.block _ c6.lt).trans c6
  replace B0 := beyond B0 hb4
  have lt3 : w2.heap.size < w3.heap.size := c6.lt
  clear hb3 hb4 hs3 HO
  gi_wp2
  have hb5 := two w3 (.cells #[.int .i64 0, .int .i64 0, .int .i64 1, .bool true, .int .i64 0, .int .i64 0, .int .i64 0, .bool false, .bool true] 85) (.cells #[.pointer (some ⟨b, 0, none⟩)] 38)
  have cD : DAt ((w3.alloc (.cells #[.int .i64 0, .int .i64 0, .int .i64 1, .bool true, .int .i64 0, .int .i64 0, .int .i64 0, .bool false, .bool true] 85)).alloc (.cells #[.pointer (some ⟨b, 0, none⟩)] 38)) w3.heap.size d0 := (Below.heap_alloc _ _ _ (by simp)).trans (World.alloc_heap_new w3 _)
  have cz := Boxed.new (w3.alloc (.cells #[.int .i64 0, .int .i64 0, .int .i64 1, .bool true, .int .i64 0, .int .i64 0, .int .i64 0, .bool false, .bool true] 85)) 38 (.pointer (some ⟨b, 0, none⟩))
  simp only [World.size_alloc] at cz
  have hs5 : ((w3.alloc (.cells #[.int .i64 0, .int .i64 0, .int .i64 1, .bool true, .int .i64 0, .int .i64 0, .int .i64 0, .bool false, .bool true] 85)).alloc (.cells #[.pointer (some ⟨b, 0, none⟩)] 38)).heap.size = w3.heap.size + 1 + 1 := by simp
  refine ⟨trivial, (limits_in _ b _).mono ?_⟩
  rintro e w' ⟨rfl, rfl⟩
  gi_wp2
  generalize (w3.alloc (.cells #[.int .i64 0, .int .i64 0, .int .i64 1, .bool true, .int .i64 0, .int .i64 0, .int .i64 0, .bool false, .bool true] 85)).alloc (.cells #[.pointer (some ⟨b, 0, none⟩)] 38) = W4 at *
  have I0 : DI w L g (q + 1) cap' w2.heap.size w3.heap.size d0 W4 := ⟨okS0, cD, (hb5.block _ (Array.getElem?_eq_some_iff.1 cR).1).trans cR, (hb5.block _ cF.lt).trans cF, (hb5.block _ c6.lt).trans c6, hrow.past hb5, by omega, beyond B0 hb5⟩
  have hz4 := HZ.out.past I0.bl
  clear hb5 cD cR cF c6 hrow B0
  refine wpIn_rangeFunc_ownH rfl (by omega) (gf := 80) (lb := #[.pointer (some ⟨w3.heap.size + 1, 0, none⟩)]) (by simp [Act.eval, go_sem]) trivial (enters_of Tryz.func80 (by kernel_rfl) rfl)
    (lims_stops 5 (by omega) n m hn hm c (w3.heap.size + 1) b w.heap.size (some w3.heap.size) W4 cz hz4 (fun x e => by injection e with e; omega)) KeepB.trans (KeepB.put I0.bl.size) (Below.refl _ _) (fun _ => rfl)
    (fun pre W => (∀ x ∈ pre, badK n c L x.val = false) ∧ DI w L g (q + 1) cap' w2.heap.size w3.heap.size (pre.foldl (fun s k => dStep n c L s k.val) d0) W) (DX w n m c L) (OwnFrom.and (Own.from (own_pure _) _) (dI_own w L g (q + 1) cap' w2.heap.size w3.heap.size (fun pre : List (Fin m) => pre.foldl (fun s k => dStep n c L s k.val) d0) _ I0.bl.size)) (fun cd => dX_own w n m c L cd _ I0.bl.size)
    ⟨by simp, I0⟩
    (fun x a' W => ∃ Bx, w3.heap.size + 1 < Bx ∧ W.heap[Bx]? = some (.cells #[.int .i64 ((x.val / (n + 1) : Nat) : Int), .int .i64 ((x.val % (n + 1) : Nat) : Int), .int .i32 (c x.val)] 43) ∧ a' = { tmps := #[.pointer (some ⟨b, 0, none⟩), .slice ad q cap, undef, undef, .pointer (some ⟨w.heap.size, 0, none⟩), .pointer (some ⟨w.heap.size + 1, 0, none⟩), .pointer (some ⟨w2.heap.size, 0, none⟩), .pointer (some ⟨w3.heap.size, 0, none⟩), .pointer (some ⟨Bx, 0, none⟩), undef, undef, undef, .pointer (some ⟨b, 0, none⟩), .slice ad q cap, .bool true, .bool false, undef, .slice ad q cap, .slice (some ⟨g, 0, none⟩) (q + 1) cap', rv 0 1, .agg #[.int .i64 0, .int .i64 0, .int .i64 1, .bool true], .agg #[.int .i64 0, .int .i64 0, .int .i64 1, .bool true, .int .i64 0, .int .i64 0, .int .i64 0, .bool false, .bool true], .pointer (some ⟨b, 0, none⟩), .func (.func 80) #[] #[.pointer (some ⟨w3.heap.size + 1, 0, none⟩)], .agg #[.int .i64 ((x.val / (n + 1) : Nat) : Int), .int .i64 ((x.val % (n + 1) : Nat) : Int), .int .i32 (c x.val)], undef, undef, undef, undef, undef, undef, undef, undef, undef, undef, undef, undef, undef, undef, undef, undef, undef, undef, undef, undef, undef, undef, undef, undef, undef, undef, undef, undef, undef, undef, undef, undef, undef, undef, undef, undef, undef, undef, undef, undef, undef, undef, undef, undef, undef, undef, undef, undef, undef, undef, undef, undef, undef, undef, undef, undef, undef, undef], defers := [] })
    (fun x a' _ X Y row hs hg hr => by obtain ⟨Bx, h1, h2, h3⟩ := hs; exact ⟨Bx, h1, objs_own Bx _ _ () X Y row h2 hg (fun r e => (hr r e).2), h3⟩)
    ?assign ?body ?done ?stop
  case assign =>
    rintro l pre x W K ⟨hbad, hI⟩ hK
    have h5 := hI.lt
    have h6 := hI.bl.size
    simp only [limVs, limAt]
    gi_wp2
    exact hK _ _ ((KeepsOthers.alloc _ _).from _) (KeepB.alloc W _ h6) ⟨hbad, hI.past (single W _)⟩ ⟨W.heap.size, by omega, World.alloc_heap_new W _, rfl⟩
  case body =>
    rintro l pre x a' W hl - ⟨hbad, hI'⟩ ⟨Bx, hBx, bX, rfl⟩ hlt
    have d0' : W.cell? ⟨Bx, 0, none⟩ = some (.int .i64 ((x.val / (n + 1) : Nat) : Int)) := by simp [World.cell?, bX]
    have d1 : W.cell? ⟨Bx, 1, none⟩ = some (.int .i64 ((x.val % (n + 1) : Nat) : Int)) := by simp [World.cell?, bX]
    have d2 : W.cell? ⟨Bx, 2, none⟩ = some (.int .i32 (c x.val)) := by simp [World.cell?, bX]
    have iJ : x.val % (n + 1) ≤ n := by have := Nat.mod_lt x.val (show 0 < n + 1 by omega); omega
    have iI : x.val / (n + 1) ≤ n := by
      have h1 : x.val < (n + 1) * (n + 1) := by rw [← hm]; exact x.isLt
      have := Nat.div_lt_of_lt_mul h1
      omega
    have HVa := hideR (value_any (c x.val) W)
    have FS : Hid ((pre ++ [x]).foldl (fun s k => dStep n c L s k.val) d0 = dStep n c L (pre.foldl (fun s k => dStep n c L s k.val) d0) x.val) := by
      show _ = _
      rw [List.foldl_append]
      rfl
    have HI := hideR hI'
    have HB := hideR hbad
    have HU := hideR (fun s W (hD : DAt W w3.heap.size s) (ho : OkS s) => up_any w3.heap.size s (endUp n c L x.val) W hD (okE_up hok iI) ho.hi)
    have HFr := hideR (fun s W (hD : DAt W w3.heap.size s) (ho : OkS s) => from_any w3.heap.size s (endFrom n c L x.val) W hD (okE_from hok iJ) ho.lo)
    have OU := hideR (fun s (ho : OkS s) => okS_up (e := endUp n c L x.val) ho (okE_up hok iI))
    have OF := hideR (fun s (ho : OkS s) => okS_from (e := endFrom n c L x.val) ho (okE_from hok iJ))
    have r1 := hI'.row (x.val / (n + 1)) (show _ < L.q + 1 by omega)
    have r2 := hI'.row (x.val % (n + 1)) (show _ < L.q + 1 by omega)
    have HK := hideR (keepsP_any g 0 (q + 1) cap' (x.val / (n + 1)) (x.val % (n + 1)) _ _ _ _ (c x.val) W r1.1 r1.2 r2.1 r2.2 (by omega) (by omega) (hok _ iI).1 (hok _ iI).2.1 (hok _ iJ).1 (hok _ iJ).2.1 (hok _ iI).2.2 (hok _ iJ).2.2)
    obtain ⟨e1, e2⟩ := r1
    obtain ⟨e3, e4⟩ := r2
    rw [Nat.zero_add] at e1 e2 e3 e4
    have d6 := hI'.a.cell
    have hKe : Hid (keepAt n c L x.val = keepB (c x.val) ((aheadL L).n (x.val / (n + 1))) ((aheadL L).d (x.val / (n + 1))) ((aheadL L).n (x.val % (n + 1))) ((aheadL L).d (x.val % (n + 1)))) := rfl
    rw [← hKe.out] at HK
    have uE : Hid (endV (endUp n c L x.val) = .agg #[.int .i64 (valV (c x.val)), .int .i64 ((aheadL L).n (x.val / (n + 1))), .int .i64 ((aheadL L).d (x.val / (n + 1))), .bool (valR (c x.val))]) := rfl
    have fE : Hid (endV (endFrom n c L x.val) = .agg #[.int .i64 (-valV (c x.val)), .int .i64 ((aheadL L).n (x.val % (n + 1))), .int .i64 ((aheadL L).d (x.val % (n + 1))), .bool (valR (c x.val))]) := rfl
    rw [uE.out] at HU
    rw [fE.out] at HFr
    have vb := valV_bd (c x.val)
    have wn : wrap64 (-valV (c x.val)) = -valV (c x.val) := (w64 ⟨by omega, by omega⟩).1
    have hstep : Hid (∀ s, dStep n c L s x.val = if finB (c x.val) = true then (if ¬ x.val / (n + 1) = 0 ∧ x.val % (n + 1) = 0 then upS s (endUp n c L x.val) else if x.val / (n + 1) = 0 ∧ ¬ x.val % (n + 1) = 0 then fromS s (endFrom n c L x.val) else s) else s) := fun s => rfl
    have hbd : Hid (badK n c L x.val = (finB (c x.val) && !decide (¬ x.val / (n + 1) = 0 ∧ x.val % (n + 1) = 0) && !decide (x.val / (n + 1) = 0 ∧ ¬ x.val % (n + 1) = 0) && !keepAt n c L x.val)) := rfl
    have kI : ((x.val / (n + 1) : Nat) : Int) < ((q + 1 : Nat) : Int) := by omega
    have kJ : ((x.val % (n + 1) : Nat) : Int) < ((q + 1 : Nat) : Int) := by omega
    clear cz hz4 hm hI hf hok HV HZ hbad hI' I0 uE fE hKe vb
    generalize pre.foldl (fun s k => dStep n c L s k.val) d0 = s at *
    generalize endUp n c L x.val = EU at *
    generalize endFrom n c L x.val = EF at *
    generalize keepAt n c L x.val = kk at *
    generalize finB (c x.val) = fb at *
    generalize valV (c x.val) = N1 at *
    generalize valR (c x.val) = rr at *
    generalize (aheadL L).n (x.val / (n + 1)) = an at *
    generalize (aheadL L).d (x.val / (n + 1)) = adn at *
    generalize (aheadL L).n (x.val % (n + 1)) = bn at *
    generalize (aheadL L).d (x.val % (n + 1)) = bdn at *
    generalize c x.val = bb at *
    generalize x.val / (n + 1) = ii at *
    generalize x.val % (n + 1) = jj at *
    have same : ∀ W', Below W.heap.size W W' → badK n c L x.val = false → dStep n c L s x.val = s → (∀ y ∈ pre ++ [x], badK n c L y.val = false) ∧ DI w L g (q + 1) cap' w2.heap.size w3.heap.size ((pre ++ [x]).foldl (fun s k => dStep n c L s k.val) d0) W' := fun W' hb h1 h2 => by
      refine ⟨fun y hy => ?_, ?_⟩
      · rcases List.mem_append.1 hy with h | h
        · exact HB.out y h
        · rw [List.mem_singleton.1 h]; exact h1
      · rw [FS.out, h2]; exact HI.out.past hb
    have SAME := hideR same
    have more : ∀ W' s', W.grownBy W' (some w3.heap.size) → DAt W' w3.heap.size s' → OkS s' → badK n c L x.val = false → dStep n c L s x.val = s' → (∀ y ∈ pre ++ [x], badK n c L y.val = false) ∧ DI w L g (q + 1) cap' w2.heap.size w3.heap.size ((pre ++ [x]).foldl (fun s k => dStep n c L s k.val) d0) W' := fun W' s' hg hd ho h1 h2 => by
      refine ⟨fun y hy => ?_, ?_⟩
      · rcases List.mem_append.1 hy with h | h
        · exact HB.out y h
        · rw [List.mem_singleton.1 h]; exact h1
      · rw [FS.out, h2]; exact HI.out.grow hg hd ho (by omega) lt3 (by omega)
    have MORE := hideR more
    clear same more bX
    cases fb with
    | false =>
      have h1 : Hid (badK n c L x.val = false ∧ dStep n c L s x.val = s) := ⟨by rw [hbd.out]; rfl, by rw [hstep.out]; rfl⟩
      clear hbd hstep HU HFr HK OU OF
      gi_wp2
      refine ⟨trivial, (callsIn_wide.2 HVa.out).mono ?_⟩
      rintro e w1 ⟨rfl, e1⟩
      obtain rfl := e1.symm
      gi_wp2
      exact ⟨KeepsFrom.refl _ _, KeepB.of (Below.refl _ _) HI.out.bl.size, SAME.out _ (Below.refl _ _) h1.out.1 h1.out.2⟩
    | true =>
      by_cases z1 : ii = 0
      · by_cases z2 : jj = 0
        · have a1 : ((ii : Int) != 0) = false := by simp [z1]
          have a2 : ((ii : Int) == 0) = true := by simp [z1]
          have b1 : ((jj : Int) == 0) = true := by simp [z2]
          have b2 : ((jj : Int) != 0) = false := by simp [z2]
          have h2 : Hid (dStep n c L s x.val = s) := by show _ = _; rw [hstep.out]; simp [z1, z2]
          have h3 : Hid (badK n c L x.val = !kk) := by show _ = _; rw [hbd.out]; simp [z1, z2]
          clear hbd hstep HU HFr OU OF z1 z2
          gi_wp2
          refine ⟨trivial, (callsIn_wide.2 HVa.out).mono ?_⟩
          rintro e w1 ⟨rfl, e1⟩
          obtain rfl := e1.symm
          clear e1 HVa
          gi_wp2
          refine ⟨trivial, (callsIn_wide.2 HK.out).mono ?_⟩
          rintro e w1 ⟨rfl, hb⟩
          cases kk with
          | true =>
            clear HK
            gi_wp2
            exact ⟨keepsFrom_below hb, KeepB.of hb HI.out.bl.size, SAME.out _ hb h3.out h2.out⟩
          | false =>
            have I1 := HI.out.past hb
            have R1 := I1.r
            have r7 := I1.f.cell
            have f7 := I1.f.frozen
            have r0 : w1.cell? ⟨w.heap.size, 0, none⟩ = some (.int .i64 0) := by simp [World.cell?, R1]
            have r1 : w1.cell? ⟨w.heap.size, 1, none⟩ = some (.int .i64 0) := by simp [World.cell?, R1]
            have r2 : w1.cell? ⟨w.heap.size, 2, none⟩ = some (.int .i64 0) := by simp [World.cell?, R1]
            have r3 : w1.cell? ⟨w.heap.size, 3, none⟩ = some (.int .i64 0) := by simp [World.cell?, R1]
            have r4 : w1.cell? ⟨w.heap.size, 4, none⟩ = some (.bool false) := by simp [World.cell?, R1]
            have r5 : w1.cell? ⟨w.heap.size, 5, none⟩ = some (.bool false) := by simp [World.cell?, R1]
            have r6 : w1.cell? ⟨w.heap.size, 6, none⟩ = some (.bool false) := by simp [World.cell?, R1]
            have f0 : w1.frozen? ⟨w.heap.size, 0, none⟩ = false := by simp [World.frozen?, R1]
            have f1 : w1.frozen? ⟨w.heap.size, 1, none⟩ = false := by simp [World.frozen?, R1]
            have f2 : w1.frozen? ⟨w.heap.size, 2, none⟩ = false := by simp [World.frozen?, R1]
            have f3 : w1.frozen? ⟨w.heap.size, 3, none⟩ = false := by simp [World.frozen?, R1]
            have f4 : w1.frozen? ⟨w.heap.size, 4, none⟩ = false := by simp [World.frozen?, R1]
            have f5 : w1.frozen? ⟨w.heap.size, 5, none⟩ = false := by simp [World.frozen?, R1]
            have f6 : w1.frozen? ⟨w.heap.size, 6, none⟩ = false := by simp [World.frozen?, R1]
            have HB1 := hideR I1.bl
            have KF := hideR (keepsFrom_below (B := W4.heap.size) hb)
            clear HK hb R1 I1 d0' d1 d2 d6
            gi_wp2
            exact res_zero HB1.out KF.out r0 r1 r2 r3 r4 r5 r6 r7 ⟨x, h3.out⟩
        · have a1 : ((ii : Int) != 0) = false := by simp [z1]
          have a2 : ((ii : Int) == 0) = true := by simp [z1]
          have b1 : ((jj : Int) == 0) = false := by simp [z2]
          have b2 : ((jj : Int) != 0) = true := by simp [z2]
          have h2 : Hid (dStep n c L s x.val = fromS s EF ∧ badK n c L x.val = false) := ⟨by rw [hstep.out]; simp [z1, z2], by rw [hbd.out]; simp [z1, z2]⟩
          have HC := hideR (HFr.out s W HI.out.d HI.out.ok)
          have O1 := hideR (OF.out s HI.out.ok)
          clear hbd hstep HU HFr OU OF HK z1 z2
          gi_wp2
          refine ⟨trivial, (callsIn_wide.2 HVa.out).mono ?_⟩
          rintro e w1 ⟨rfl, e1⟩
          obtain rfl := e1.symm
          clear e1 HVa
          gi_wp2
          refine ⟨trivial, (callsIn_wide.2 HC.out).mono ?_⟩
          rintro e w1 ⟨⟨v, rfl⟩, hd, hg⟩
          gi_wp2
          exact ⟨grow_from HI.out.d hg, grow_keepB hg (by omega) HI.out.bl.size, MORE.out _ _ hg hd O1.out h2.out.2 h2.out.1⟩
      · by_cases z2 : jj = 0
        · have a1 : ((ii : Int) != 0) = true := by simp [z1]
          have a2 : ((ii : Int) == 0) = false := by simp [z1]
          have b1 : ((jj : Int) == 0) = true := by simp [z2]
          have b2 : ((jj : Int) != 0) = false := by simp [z2]
          have h2 : Hid (dStep n c L s x.val = upS s EU ∧ badK n c L x.val = false) := ⟨by rw [hstep.out]; simp [z1, z2], by rw [hbd.out]; simp [z1, z2]⟩
          have HC := hideR (HU.out s W HI.out.d HI.out.ok)
          have O1 := hideR (OU.out s HI.out.ok)
          clear hbd hstep HU HFr OU OF HK z1 z2
          gi_wp2
          refine ⟨trivial, (callsIn_wide.2 HVa.out).mono ?_⟩
          rintro e w1 ⟨rfl, e1⟩
          obtain rfl := e1.symm
          clear e1 HVa
          gi_wp2
          refine ⟨trivial, (callsIn_wide.2 HC.out).mono ?_⟩
          rintro e w1 ⟨⟨v, rfl⟩, hd, hg⟩
          gi_wp2
          exact ⟨grow_from HI.out.d hg, grow_keepB hg (by omega) HI.out.bl.size, MORE.out _ _ hg hd O1.out h2.out.2 h2.out.1⟩
        · have a1 : ((ii : Int) != 0) = true := by simp [z1]
          have a2 : ((ii : Int) == 0) = false := by simp [z1]
          have b1 : ((jj : Int) == 0) = false := by simp [z2]
          have b2 : ((jj : Int) != 0) = true := by simp [z2]
          have h2 : Hid (dStep n c L s x.val = s) := by show _ = _; rw [hstep.out]; simp [z1, z2]
          have h3 : Hid (badK n c L x.val = !kk) := by show _ = _; rw [hbd.out]; simp [z1, z2]
          clear hbd hstep HU HFr OU OF z1 z2
          gi_wp2
          refine ⟨trivial, (callsIn_wide.2 HVa.out).mono ?_⟩
          rintro e w1 ⟨rfl, e1⟩
          obtain rfl := e1.symm
          clear e1 HVa
          gi_wp2
          refine ⟨trivial, (callsIn_wide.2 HK.out).mono ?_⟩
          rintro e w1 ⟨rfl, hb⟩
          cases kk with
          | true =>
            clear HK
            gi_wp2
            exact ⟨keepsFrom_below hb, KeepB.of hb HI.out.bl.size, SAME.out _ hb h3.out h2.out⟩
          | false =>
            have I1 := HI.out.past hb
            have R1 := I1.r
            have r7 := I1.f.cell
            have f7 := I1.f.frozen
            have r0 : w1.cell? ⟨w.heap.size, 0, none⟩ = some (.int .i64 0) := by simp [World.cell?, R1]
            have r1 : w1.cell? ⟨w.heap.size, 1, none⟩ = some (.int .i64 0) := by simp [World.cell?, R1]
            have r2 : w1.cell? ⟨w.heap.size, 2, none⟩ = some (.int .i64 0) := by simp [World.cell?, R1]
            have r3 : w1.cell? ⟨w.heap.size, 3, none⟩ = some (.int .i64 0) := by simp [World.cell?, R1]
            have r4 : w1.cell? ⟨w.heap.size, 4, none⟩ = some (.bool false) := by simp [World.cell?, R1]
            have r5 : w1.cell? ⟨w.heap.size, 5, none⟩ = some (.bool false) := by simp [World.cell?, R1]
            have r6 : w1.cell? ⟨w.heap.size, 6, none⟩ = some (.bool false) := by simp [World.cell?, R1]
            have f0 : w1.frozen? ⟨w.heap.size, 0, none⟩ = false := by simp [World.frozen?, R1]
            have f1 : w1.frozen? ⟨w.heap.size, 1, none⟩ = false := by simp [World.frozen?, R1]
            have f2 : w1.frozen? ⟨w.heap.size, 2, none⟩ = false := by simp [World.frozen?, R1]
            have f3 : w1.frozen? ⟨w.heap.size, 3, none⟩ = false := by simp [World.frozen?, R1]
            have f4 : w1.frozen? ⟨w.heap.size, 4, none⟩ = false := by simp [World.frozen?, R1]
            have f5 : w1.frozen? ⟨w.heap.size, 5, none⟩ = false := by simp [World.frozen?, R1]
            have f6 : w1.frozen? ⟨w.heap.size, 6, none⟩ = false := by simp [World.frozen?, R1]
            have HB1 := hideR I1.bl
            have KF := hideR (keepsFrom_below (B := W4.heap.size) hb)
            clear HK hb R1 I1 d0' d1 d2 d6
            gi_wp2
            exact res_zero HB1.out KF.out r0 r1 r2 r3 r4 r5 r6 r7 ⟨x, h3.out⟩
  case done =>
    rintro D ys W hD rfl ⟨hbad, hI'⟩ hK
    have ha : (List.range m).any (badK n c L) = false := by
      rw [Bool.eq_false_iff]
      intro h
      obtain ⟨k, hk, h2⟩ := List.any_eq_true.1 h
      rw [hbad ⟨k, List.mem_range.1 hk⟩ (List.mem_finRange _)] at h2
      cases h2
    have hI2 : Hid (DI w L g (q + 1) cap' w2.heap.size w3.heap.size (dEnd n m c L) W) := hI'
    have eO : Hid ((if noneB (dEnd n m c L) = true then (spanZ, false) else spanS (dEnd n m c L)) = o) := by
      show _ = _
      rw [← HOO.out]
      unfold delB
      rw [ha]
      exact (if_neg Bool.false_ne_true).symm
    generalize dEnd n m c L = s at *
    have HNo := hideR (noneD_any w3.heap.size s W hI2.out.d hI2.out.ok.lo hI2.out.ok.hi)
    have HSp := hideR (fun W' (hb : Below W.heap.size W W') => span_any w3.heap.size s W' (hI2.out.d.past hb) hI2.out.ok.lo hI2.out.ok.hi)
    have HKD := hideR hK
    clear cz hz4 hbad hI' I0 HOO ha hK
    generalize noneB s = nb at *
    generalize hsp : spanS s = sp at *
    obtain ⟨spv, spb⟩ := sp
    gi_wp2
    refine ⟨trivial, (callsIn_wide.2 HNo.out).mono ?_⟩
    rintro e w5 ⟨rfl, hb⟩
    cases nb with
    | true =>
      have I1 := hI2.out.past hb
      have R1 := I1.r
      have r7 := I1.f.cell
      have f7 := I1.f.frozen
      have r0 : w5.cell? ⟨w.heap.size, 0, none⟩ = some (.int .i64 0) := by simp [World.cell?, R1]
      have r1 : w5.cell? ⟨w.heap.size, 1, none⟩ = some (.int .i64 0) := by simp [World.cell?, R1]
      have r2 : w5.cell? ⟨w.heap.size, 2, none⟩ = some (.int .i64 0) := by simp [World.cell?, R1]
      have r3 : w5.cell? ⟨w.heap.size, 3, none⟩ = some (.int .i64 0) := by simp [World.cell?, R1]
      have r4 : w5.cell? ⟨w.heap.size, 4, none⟩ = some (.bool false) := by simp [World.cell?, R1]
      have r5 : w5.cell? ⟨w.heap.size, 5, none⟩ = some (.bool false) := by simp [World.cell?, R1]
      have r6 : w5.cell? ⟨w.heap.size, 6, none⟩ = some (.bool false) := by simp [World.cell?, R1]
      have f0 : w5.frozen? ⟨w.heap.size, 0, none⟩ = false := by simp [World.frozen?, R1]
      have f1 : w5.frozen? ⟨w.heap.size, 1, none⟩ = false := by simp [World.frozen?, R1]
      have f2 : w5.frozen? ⟨w.heap.size, 2, none⟩ = false := by simp [World.frozen?, R1]
      have f3 : w5.frozen? ⟨w.heap.size, 3, none⟩ = false := by simp [World.frozen?, R1]
      have f4 : w5.frozen? ⟨w.heap.size, 4, none⟩ = false := by simp [World.frozen?, R1]
      have f5 : w5.frozen? ⟨w.heap.size, 5, none⟩ = false := by simp [World.frozen?, R1]
      have f6 : w5.frozen? ⟨w.heap.size, 6, none⟩ = false := by simp [World.frozen?, R1]
      have HB1 := hideR I1.bl
      have hK5 := hideR ((hb.block D (Array.getElem?_eq_some_iff.1 HKD.out).1).trans HKD.out)
      have eO2 : Hid ((spanZ, false) = o) := eO.out
      clear hb R1 I1 eO HNo HSp hI2 HKD
      gi_wp2
      obtain ⟨x0, x1, x2, x3, x4, x5, x6, x7⟩ := eight_cells w5 w.heap.size (w.heap.size + 1) (by omega) _ _ _ _ _ _ _ _ (.int .i64 0) (.int .i64 0) (.int .i64 0) (.int .i64 0) (.bool false) (.bool false) (.bool false) (.bool false) r0 r1 r2 r3 r4 r5 r6 r7
      have hK2 := (eight_others w5 w.heap.size (w.heap.size + 1) (.int .i64 0) (.int .i64 0) (.int .i64 0) (.int .i64 0) (.bool false) (.bool false) (.bool false) (.bool false)).same D _ hK5.out rfl
      have hB2 := eight_below HB1.out (.int .i64 0) (.int .i64 0) (.int .i64 0) (.int .i64 0) (.bool false) (.bool false) (.bool false) (.bool false)
      generalize (((((((w5.setCell ⟨w.heap.size, 0, none⟩ (.int .i64 0)).setCell ⟨w.heap.size, 1, none⟩ (.int .i64 0)).setCell ⟨w.heap.size, 2, none⟩ (.int .i64 0)).setCell ⟨w.heap.size, 3, none⟩ (.int .i64 0)).setCell ⟨w.heap.size, 4, none⟩ (.bool false)).setCell ⟨w.heap.size, 5, none⟩ (.bool false)).setCell ⟨w.heap.size, 6, none⟩ (.bool false)).setCell ⟨w.heap.size + 1, 0, none⟩ (.bool false) = Y at *
      have y0 := cellPut (o' := .deferred none) hK2 rfl x0
      have y1 := cellPut (o' := .deferred none) hK2 rfl x1
      have y2 := cellPut (o' := .deferred none) hK2 rfl x2
      have y3 := cellPut (o' := .deferred none) hK2 rfl x3
      have y4 := cellPut (o' := .deferred none) hK2 rfl x4
      have y5 := cellPut (o' := .deferred none) hK2 rfl x5
      have y6 := cellPut (o' := .deferred none) hK2 rfl x6
      have y7 := cellPut (o' := .deferred none) hK2 rfl x7
      refine ⟨by simp, .inl ⟨_, _, rfl, run_takeDeferred hK2, ?_⟩⟩
      refine ⟨.tuple #[spanZ, .bool false], by simp [results, Tryz.results19, go_sem, y0, y1, y2, y3, y4, y5, y6, y7], by rw [← eO2.out], hB2.trans (belowK_b (w := w) (Nat.le_refl _) Y D _ _ (by omega) hK2 rfl rfl)⟩
    | false =>
      have HS2 := hideR (HSp.out w5 hb)
      have I1 := hI2.out.past hb
      have hK5 := (hb.block D (Array.getElem?_eq_some_iff.1 HKD.out).1).trans HKD.out
      have eO2 : Hid ((spv, spb) = o) := eO.out
      obtain ⟨v0, v1, v2, v3, v4, v5, v6, hsv⟩ := spanS_shape s
      rw [hsp] at hsv
      have hsv' : spv = spanV v0 v1 v2 v3 v4 v5 v6 := hsv
      subst hsv'
      clear hb eO HNo HSp hI2 HKD hsv hsp
      gi_wp2
      refine ⟨trivial, (callsIn_wide.2 HS2.out).mono ?_⟩
      rintro e w6 ⟨rfl, hb⟩
      have I2 := I1.past hb
      have R1 := I2.r
      have r7 := I2.f.cell
      have f7 := I2.f.frozen
      have r0 : w6.cell? ⟨w.heap.size, 0, none⟩ = some (.int .i64 0) := by simp [World.cell?, R1]
      have r1 : w6.cell? ⟨w.heap.size, 1, none⟩ = some (.int .i64 0) := by simp [World.cell?, R1]
      have r2 : w6.cell? ⟨w.heap.size, 2, none⟩ = some (.int .i64 0) := by simp [World.cell?, R1]
      have r3 : w6.cell? ⟨w.heap.size, 3, none⟩ = some (.int .i64 0) := by simp [World.cell?, R1]
      have r4 : w6.cell? ⟨w.heap.size, 4, none⟩ = some (.bool false) := by simp [World.cell?, R1]
      have r5 : w6.cell? ⟨w.heap.size, 5, none⟩ = some (.bool false) := by simp [World.cell?, R1]
      have r6 : w6.cell? ⟨w.heap.size, 6, none⟩ = some (.bool false) := by simp [World.cell?, R1]
      have f0 : w6.frozen? ⟨w.heap.size, 0, none⟩ = false := by simp [World.frozen?, R1]
      have f1 : w6.frozen? ⟨w.heap.size, 1, none⟩ = false := by simp [World.frozen?, R1]
      have f2 : w6.frozen? ⟨w.heap.size, 2, none⟩ = false := by simp [World.frozen?, R1]
      have f3 : w6.frozen? ⟨w.heap.size, 3, none⟩ = false := by simp [World.frozen?, R1]
      have f4 : w6.frozen? ⟨w.heap.size, 4, none⟩ = false := by simp [World.frozen?, R1]
      have f5 : w6.frozen? ⟨w.heap.size, 5, none⟩ = false := by simp [World.frozen?, R1]
      have f6 : w6.frozen? ⟨w.heap.size, 6, none⟩ = false := by simp [World.frozen?, R1]
      have HB1 := hideR I2.bl
      have hK6 := hideR ((hb.block D (Array.getElem?_eq_some_iff.1 hK5).1).trans hK5)
      clear hb R1 I1 I2 hK5 HS2
      gi_wp2
      obtain ⟨x0, x1, x2, x3, x4, x5, x6, x7⟩ := eight_cells w6 w.heap.size (w.heap.size + 1) (by omega) _ _ _ _ _ _ _ _ (.int .i64 v0) (.int .i64 v1) (.int .i64 v2) (.int .i64 v3) (.bool v4) (.bool v5) (.bool v6) (.bool spb) r0 r1 r2 r3 r4 r5 r6 r7
      have hK2 := (eight_others w6 w.heap.size (w.heap.size + 1) (.int .i64 v0) (.int .i64 v1) (.int .i64 v2) (.int .i64 v3) (.bool v4) (.bool v5) (.bool v6) (.bool spb)).same D _ hK6.out rfl
      have hB2 := eight_below HB1.out (.int .i64 v0) (.int .i64 v1) (.int .i64 v2) (.int .i64 v3) (.bool v4) (.bool v5) (.bool v6) (.bool spb)
      generalize (((((((w6.setCell ⟨w.heap.size, 0, none⟩ (.int .i64 v0)).setCell ⟨w.heap.size, 1, none⟩ (.int .i64 v1)).setCell ⟨w.heap.size, 2, none⟩ (.int .i64 v2)).setCell ⟨w.heap.size, 3, none⟩ (.int .i64 v3)).setCell ⟨w.heap.size, 4, none⟩ (.bool v4)).setCell ⟨w.heap.size, 5, none⟩ (.bool v5)).setCell ⟨w.heap.size, 6, none⟩ (.bool v6)).setCell ⟨w.heap.size + 1, 0, none⟩ (.bool spb) = Y at *
      have y0 := cellPut (o' := .deferred none) hK2 rfl x0
      have y1 := cellPut (o' := .deferred none) hK2 rfl x1
      have y2 := cellPut (o' := .deferred none) hK2 rfl x2
      have y3 := cellPut (o' := .deferred none) hK2 rfl x3
      have y4 := cellPut (o' := .deferred none) hK2 rfl x4
      have y5 := cellPut (o' := .deferred none) hK2 rfl x5
      have y6 := cellPut (o' := .deferred none) hK2 rfl x6
      have y7 := cellPut (o' := .deferred none) hK2 rfl x7
      refine ⟨by simp, .inl ⟨_, _, rfl, run_takeDeferred hK2, ?_⟩⟩
      refine ⟨.tuple #[spanV v0 v1 v2 v3 v4 v5 v6, .bool spb], by simp [results, Tryz.results19, go_sem, y0, y1, y2, y3, y4, y5, y6, y7], by rw [← eO2.out], hB2.trans (belowK_b (w := w) (Nat.le_refl _) Y D _ _ (by omega) hK2 rfl rfl)⟩
  case stop =>
    rintro D cd pre W hD hpre ⟨⟨rfl, ⟨x, hx⟩, a0, a1, a2, a3, a4, a5, a6, a7⟩, hB⟩ hK
    have eO2 : Hid ((spanZ, false) = o) := by
      show _ = _
      rw [← HOO.out]
      unfold delB
      rw [show (List.range m).any (badK n c L) = true from List.any_eq_true.2 ⟨x.val, List.mem_range.2 x.isLt, hx⟩]
      exact (if_pos rfl).symm
    clear cz hz4 I0 HOO
    gi_wp2
    have y0 := cellPut (o' := .deferred none) hK rfl a0
    have y1 := cellPut (o' := .deferred none) hK rfl a1
    have y2 := cellPut (o' := .deferred none) hK rfl a2
    have y3 := cellPut (o' := .deferred none) hK rfl a3
    have y4 := cellPut (o' := .deferred none) hK rfl a4
    have y5 := cellPut (o' := .deferred none) hK rfl a5
    have y6 := cellPut (o' := .deferred none) hK rfl a6
    have y7 := cellPut (o' := .deferred none) hK rfl a7
    refine ⟨by simp, .inl ⟨_, _, rfl, run_takeDeferred hK, ?_⟩⟩
    refine ⟨.tuple #[spanZ, .bool false], by simp [results, Tryz.results19, go_sem, y0, y1, y2, y3, y4, y5, y6, y7], by rw [← eO2.out], hB.trans (belowK_b (w := w) (Nat.le_refl _) W D _ _ (by omega) hK rfl rfl)⟩
end Go.Proofs.YteifpplemohdcaaGreatDoor
