/-
  point.Breaks, In.
-/
import Derived.Test.YtnfkmpickmonoaaGreatQ46
namespace Go.Proofs.YtnfkmpickmonoaaGreat
open Go.RowKit Go.Shelf
set_option linter.unusedVariables false
set_option maxRecDepth 100000
attribute [local go_sem] Oper.semAt_some
theorem lims_stops (k : Nat) (hk : 1 ≤ k) (n m : Nat) (hn : n ≤ 8) (hm : m = (n + 1) * (n + 1)) (c : Row) (Bz b n₀ : Nat) (X : Option Nat) (w : World) (hBz : Boxed w Bz 41 (.pointer (some ⟨b, 0, none⟩))) (hz : ZoneAt w b n c) (hX : ∀ x, X = some x → x < w.heap.size) :
    SeqStopsK Fence.wide k Tryz.prog 102 #[.pointer (some ⟨Bz, 0, none⟩)] (fun x : Fin m => limVs6 (limAt6 n c x.val)) (KeepB n₀ X) (fun ys => ys = List.finRange m) (fun pre => pre <+: List.finRange m) m w := fun l J Jx W hW hJ _ hY h0 =>
  limits1_in6 k hk n m hn hm c l Bz b n₀ X J Jx hY W hJ ((hW.block Bz hBz.lt).trans hBz) (hz.past hW) (fun x e => Nat.lt_of_lt_of_le (hX x e) hW.size) h0
theorem objs_own {β : Type} (B : Nat) (xs : Array Value) (t : TypeId) : Own (fun (_ : β) W => W.heap[B]? = some (.cells xs t)) := fun s X Y row hs hg hrow =>
  (hg.block B (Array.getElem?_eq_some_iff.1 hs).1 (fun e' => by obtain ⟨o, ho, hc⟩ := hrow B e'.symm; rw [hs] at ho; cases ho; cases hc)).trans hs
theorem cell_own {β : Type} (B k : Nat) (v : Value) : Own (fun (_ : β) W => W.cell? ⟨B, k, none⟩ = some v) := fun s X Y row hs hg hrow => by
  obtain ⟨o, ho, hi⟩ := cells_of_cell6 hs
  rw [World.cell?_of_block (a := ⟨B, k, none⟩) (hg.block B (Array.getElem?_eq_some_iff.1 ho).1 (fun e' => by obtain ⟨o', ho', hc⟩ := hrow B e'.symm; rw [ho] at ho'; cases ho'; rw [hi] at hc; cases hc))]
  exact hs
theorem rowR_own {β : Type} (g off : Nat) (L : Rats) : Own (fun (_ : β) W => RowR W g off L) := fun s X Y row hs hg hrow k hk =>
  ⟨cell_own (β := β) _ _ _ s X Y row (hs k hk).1 hg hrow, cell_own (β := β) _ _ _ s X Y row (hs k hk).2 hg hrow⟩
theorem own_pure {β : Type} (p : β → Prop) : Own (fun s (_ : World) => p s) := fun _ _ _ _ hs _ _ => hs
theorem Own.and {β : Type} {I I' : β → World → Prop} (h : Own I) (h' : Own I') : Own (fun s W => I s W ∧ I' s W) := fun s W W' row hs hg hr => ⟨h s W W' row hs.1 hg hr, h' s W W' row hs.2 hg hr⟩
/-- Does a valuation keep the first m cells? -/
def keepAt (n : Nat) (c : Row) (L : Rats) (k : Nat) : Bool := keepB (c k) ((aheadL L).n (k / (n + 1))) ((aheadL L).d (k / (n + 1))) ((aheadL L).n (k % (n + 1))) ((aheadL L).d (k % (n + 1)))
def allK (n : Nat) (c : Row) (L : Rats) (m : Nat) : Bool := (List.range m).all (keepAt n c L)
def BrI (w : World) (n m : Nat) (c : Row) (L : Rats) (g q cap B6 : Nat) (pre : List (Fin m)) (W : World) : Prop :=
  ((∀ x ∈ pre, keepAt n c L x.val = true) ∧ W.heap[w.heap.size]? = some (.cells #[.int .i64 0, .int .i64 0, .int .i32 0] 90) ∧ Boxed W (w.heap.size + 1) 4 (.bool false) ∧ Boxed W B6 27 (.slice (some ⟨g, 0, none⟩) q cap) ∧ RowR W g 0 (aheadL L) ∧ B6 + 1 < W.heap.size) ∧ Below w.heap.size w W
def BrX (w : World) (n m : Nat) (c : Row) (L : Rats) (cd : Code) (pre : List (Fin m)) (W : World) : Prop :=
  (cd = .ret ∧ ∃ x : Fin m, x ∈ pre ∧ keepAt n c L x.val = false ∧ W.cell? ⟨w.heap.size, 0, none⟩ = some (.int .i64 ((x.val / (n + 1) : Nat) : Int)) ∧ W.cell? ⟨w.heap.size, 1, none⟩ = some (.int .i64 ((x.val % (n + 1) : Nat) : Int)) ∧ W.cell? ⟨w.heap.size, 2, none⟩ = some (.int .i32 (c x.val)) ∧ W.cell? ⟨w.heap.size + 1, 0, none⟩ = some (.bool true)) ∧ Below w.heap.size w W
theorem brI_own (w : World) (n m : Nat) (c : Row) (L : Rats) (g q cap B6 B : Nat) (hB : w.heap.size ≤ B) : OwnFrom B (BrI w n m c L g q cap B6) :=
  OwnFrom.and (Own.from (Own.and (own_pure fun pre : List (Fin m) => ∀ x ∈ pre, keepAt n c L x.val = true) (Own.and (objs_own _ _ _) (Own.and (boxed_own _ _ (fun _ => _)) (Own.and (boxed_own _ _ (fun _ => _)) (Own.and (rowR_own _ _ _) (fun _ W W' row hs hg _ => Nat.lt_of_lt_of_le hs hg.size)))))) B) (ownFrom_below (Nat.le_refl _) hB)
theorem brX_own (w : World) (n m : Nat) (c : Row) (L : Rats) (cd : Code) (B : Nat) (hB : w.heap.size ≤ B) : OwnFrom B (BrX w n m c L cd) :=
  OwnFrom.and (Own.from (fun pre X Y row hs hg hr => by
    obtain ⟨hc, x, h1, h2, h3, h4, h5, h6⟩ := hs
    exact ⟨hc, x, h1, h2, cell_own (β := Unit) _ _ _ () X Y row h3 hg hr, cell_own (β := Unit) _ _ _ () X Y row h4 hg hr, cell_own (β := Unit) _ _ _ () X Y row h5 hg hr, cell_own (β := Unit) _ _ _ () X Y row h6 hg hr⟩) B) (ownFrom_below (Nat.le_refl _) hB)
theorem keepsFrom_below6 {B : Nat} {W W' : World} (h : Below W.heap.size W W') : KeepsFrom B W W' := ⟨h.size, fun k o _ hk _ => (h.block k (Array.getElem?_eq_some_iff.1 hk).1).trans hk⟩
theorem cellPut {W : World} {D b k : Nat} {o o' : Obj} {v : Value} (hD : W.heap[D]? = some o) (ho : o.isCells = false) (h : W.cell? ⟨b, k, none⟩ = some v) : (W.putObj D o').cell? ⟨b, k, none⟩ = some v := by
  obtain ⟨p, hp, hi⟩ := cells_of_cell6 h
  rw [World.cell?_of_block (a := ⟨b, k, none⟩) ((grownBy_putObj' W D o').block b (Array.getElem?_eq_some_iff.1 hp).1 (fun e => by
    injection e with e
    subst e
    rw [hD] at hp
    cases hp
    rw [hi] at ho
    cases ho))]
  exact h
theorem below_four {w W : World} (h : Below w.heap.size w W) (a b c d : Value) : Below w.heap.size w ((((W.setCell ⟨w.heap.size, 0, none⟩ a).setCell ⟨w.heap.size, 1, none⟩ b).setCell ⟨w.heap.size, 2, none⟩ c).setCell ⟨w.heap.size + 1, 0, none⟩ d) :=
  (((h.setCell (p := ⟨w.heap.size, 0, none⟩) (Nat.le_refl _) _).setCell (p := ⟨w.heap.size, 1, none⟩) (Nat.le_refl _) _).setCell (p := ⟨w.heap.size, 2, none⟩) (Nat.le_refl _) _).setCell (p := ⟨w.heap.size + 1, 0, none⟩) (Nat.le_succ _) _
theorem keeps_four (W : World) (p a b c d : Value) (x y : Nat) : KeepsOthers W ((((W.setCell ⟨x, 0, none⟩ a).setCell ⟨x, 1, none⟩ b).setCell ⟨x, 2, none⟩ c).setCell ⟨y, 0, none⟩ d) :=
  (((KeepsOthers.setCell W _ _).trans (KeepsOthers.setCell _ _ _)).trans (KeepsOthers.setCell _ _ _)).trans (KeepsOthers.setCell _ _ _)
theorem cells_four (W : World) (a b c d : Value) (x y : Nat) (h : ¬ y = x) (o0 o1 o2 o3 : Value) (c0 : W.cell? ⟨x, 0, none⟩ = some o0) (c1 : W.cell? ⟨x, 1, none⟩ = some o1) (c2 : W.cell? ⟨x, 2, none⟩ = some o2) (c3 : W.cell? ⟨y, 0, none⟩ = some o3) :
    ((((W.setCell ⟨x, 0, none⟩ a).setCell ⟨x, 1, none⟩ b).setCell ⟨x, 2, none⟩ c).setCell ⟨y, 0, none⟩ d).cell? ⟨x, 0, none⟩ = some a ∧ ((((W.setCell ⟨x, 0, none⟩ a).setCell ⟨x, 1, none⟩ b).setCell ⟨x, 2, none⟩ c).setCell ⟨y, 0, none⟩ d).cell? ⟨x, 1, none⟩ = some b ∧ ((((W.setCell ⟨x, 0, none⟩ a).setCell ⟨x, 1, none⟩ b).setCell ⟨x, 2, none⟩ c).setCell ⟨y, 0, none⟩ d).cell? ⟨x, 2, none⟩ = some c ∧ ((((W.setCell ⟨x, 0, none⟩ a).setCell ⟨x, 1, none⟩ b).setCell ⟨x, 2, none⟩ c).setCell ⟨y, 0, none⟩ d).cell? ⟨y, 0, none⟩ = some d := by
  have h' : ¬ x = y := fun e => h e.symm
  refine ⟨?_, ?_, ?_, ?_⟩ <;> simp [go_sem, *]
set_option maxHeartbeats 4000000 in
theorem breaks_in (b n m q cap : Nat) (ad : Option Addr) (c : Row) (L : Rats) (w : World) (hn : n ≤ 8) (hm : m = (n + 1) * (n + 1)) (hz : ZoneAt w b n c) (hq : L.q = q) (hnil : ad = none → q = 0 ∧ cap = 0) (hV : RatV w ad L) (hI : RatI L) (hf : fitB L n = true) :
    CallsIn Fence.wide 6 Tryz.prog 52 #[.pointer (some ⟨b, 0, none⟩), .slice ad q cap] w fun e W' => (∃ x y z : Int, e = .returned (.tuple #[.agg #[.int .i64 x, .int .i64 y, .int .i32 z], .bool (!allK n c L m)])) ∧ Below w.heap.size w W' := by
  have q8 : L.q ≤ 8 := by have := (fitB_iff hn).1 hf; omega
  have HF := hideR (fun w hz hV => fits_any6 b n q cap ad c L w hz hq (by omega) hV hI)
  have HN := hideR (fun w hV => byNumber_any ad cap q L w hq (by omega) hnil hV)
  rw [hf] at HF
  have HV := hideR hV
  have HZ := hideR hz
  clear hV hz
  refine callsIn_of_wp_marks Tryz.func52 rfl trivial ?_ rfl
  simp only [Tryz.ntmps52, List.size_toArray, List.length_cons, List.length_nil, Nat.reduceAdd, Nat.reduceSub, Array.replicate_succ, Array.replicate_zero, List.push_toArray, List.append_toArray, List.nil_append, List.cons_append]
  have cR : ((w.alloc (.cells #[.int .i64 0, .int .i64 0, .int .i32 0] 90)).alloc (.cells #[.bool false] 4)).heap[w.heap.size]? = some (.cells #[.int .i64 0, .int .i64 0, .int .i32 0] 90) := (Below.heap_alloc _ _ _ (by simp)).trans (World.alloc_heap_new w _)
  have cF := Boxed.new (w.alloc (.cells #[.int .i64 0, .int .i64 0, .int .i32 0] 90)) 4 (.bool false)
  have B0 := two w (.cells #[.int .i64 0, .int .i64 0, .int .i32 0] 90) (.cells #[.bool false] 4)
  simp only [World.size_alloc] at cF
  gi_wp2
  generalize (w.alloc (.cells #[.int .i64 0, .int .i64 0, .int .i32 0] 90)).alloc (.cells #[.bool false] 4) = W0 at *
  refine ⟨trivial, (callsIn_wide.2 (HF.out W0 (HZ.out.past B0) (HV.out.later B0))).mono ?_⟩
  rintro e w1 ⟨rfl, hb1⟩
  replace cR := (hb1.block _ (Array.getElem?_eq_some_iff.1 cR).1).trans cR
  replace cF : Boxed w1 (w.heap.size + 1) 4 (.bool false) := (hb1.block _ cF.lt).trans cF
  replace B0 := beyond B0 hb1
  clear hb1 HF
  gi_wp2
  refine ⟨trivial, (callsIn_wide.2 (HN.out w1 (HV.out.later B0))).mono ?_⟩
  rintro e w2 ⟨⟨g, cap', rfl, g0, hrow⟩, hb2⟩
  replace cR := (hb2.block _ (Array.getElem?_eq_some_iff.1 cR).1).trans cR
  replace cF : Boxed w2 (w.heap.size + 1) 4 (.bool false) := (hb2.block _ cF.lt).trans cF
  replace B0 := beyond B0 hb2
  clear hb2 HN
  gi_wp2
  refine ⟨trivial, (limits_in6 _ b _).mono ?_⟩
  rintro e w' ⟨rfl, rfl⟩
  gi_wp2
  have hsz : ((w2.alloc (.cells #[.slice (some ⟨g, 0, none⟩) (q + 1) cap'] 27)).alloc (.cells #[.pointer (some ⟨b, 0, none⟩)] 41)).heap.size = w2.heap.size + 1 + 1 := by simp
  have c6 := (Boxed.new w2 27 (.slice (some ⟨g, 0, none⟩) (q + 1) cap')).alloc (.cells #[.pointer (some ⟨b, 0, none⟩)] 41)
  have cz := Boxed.new (w2.alloc (.cells #[.slice (some ⟨g, 0, none⟩) (q + 1) cap'] 27)) 41 (.pointer (some ⟨b, 0, none⟩))
  simp only [World.size_alloc] at cz
  have hb4 := two w2 (.cells #[.slice (some ⟨g, 0, none⟩) (q + 1) cap'] 27) (.cells #[.pointer (some ⟨b, 0, none⟩)] 41)
  generalize (w2.alloc (.cells #[.slice (some ⟨g, 0, none⟩) (q + 1) cap'] 27)).alloc (.cells #[.pointer (some ⟨b, 0, none⟩)] 41) = W4 at *
  replace cR := (hb4.block _ (Array.getElem?_eq_some_iff.1 cR).1).trans cR
  replace cF : Boxed W4 (w.heap.size + 1) 4 (.bool false) := (hb4.block _ cF.lt).trans cF
  replace hrow := hrow.past hb4
  have hw2 := B0.size
  replace B0 := beyond B0 hb4
  have hz4 := HZ.out.past B0
  have hok := (fitB_iff hn).1 hf
  have hgap : Hid (∀ k W, k < m → RowR W g 0 (aheadL L) → Calls Tryz.prog 76 #[.slice (some ⟨g, 0, none⟩) (q + 1) cap', .agg #[.int .i64 ((k / (n + 1) : Nat) : Int), .int .i64 ((k % (n + 1) : Nat) : Int), .int .i32 (c k)]] W fun e w' => e = .returned (.bool (keepAt n c L k)) ∧ Below W.heap.size W w') := fun k W hk hr => by
    have i1 : k / (n + 1) ≤ n := by
      have : k < (n + 1) * (n + 1) := by rw [← hm]; exact hk
      have := Nat.div_lt_of_lt_mul this
      omega
    have j1 : k % (n + 1) ≤ n := by have := Nat.mod_lt k (show 0 < n + 1 by omega); omega
    have at' : ∀ i, i ≤ n → I64 ((aheadL L).n i) ∧ I64 ((aheadL L).d i) ∧ okR ((aheadL L).n i) ((aheadL L).d i) = true := fun i hi => by
      unfold aheadL
      by_cases e : i = 0
      · simp only [e, if_true]
        exact ⟨by decide, by decide, by decide⟩
      · simp only [e, if_false]
        have h1 := hI (i - 1) (by omega)
        exact ⟨h1.1, h1.2, hok.2 (i - 1) (by omega)⟩
    obtain ⟨a1, a2, a3⟩ := at' _ i1
    obtain ⟨b1, b2, b3⟩ := at' _ j1
    have r1 := hr (k / (n + 1)) (show _ < L.q + 1 by omega)
    have r2 := hr (k % (n + 1)) (show _ < L.q + 1 by omega)
    exact keepsP_any g 0 (q + 1) cap' (k / (n + 1)) (k % (n + 1)) _ _ _ _ (c k) W r1.1 r1.2 r2.1 r2.2 (by omega) (by omega) a1 a2 b1 b2 a3 b3
  refine wpIn_rangeFunc_ownH rfl (by omega) (gf := 102) (lb := #[.pointer (some ⟨w2.heap.size + 1, 0, none⟩)]) (by simp [Act.eval, go_sem]) trivial (enters_of Tryz.func102 (by kernel_rfl) rfl)
    (lims_stops 5 (by omega) n m hn hm c (w2.heap.size + 1) b w.heap.size none W4 cz hz4 (fun x e => by cases e)) KeepB.trans (KeepB.put B0.size) (Below.refl _ _) (fun _ => rfl)
    (BrI w n m c L g (q + 1) cap' w2.heap.size) (BrX w n m c L) (brI_own w n m c L _ _ _ _ _ B0.size) (fun cd => brX_own w n m c L cd _ B0.size)
    ⟨⟨by simp, cR, cF, c6, hrow, by omega⟩, B0⟩
    (fun x a' W => ∃ Bx, w2.heap.size + 1 < Bx ∧ W.heap[Bx]? = some (.cells #[.int .i64 ((x.val / (n + 1) : Nat) : Int), .int .i64 ((x.val % (n + 1) : Nat) : Int), .int .i32 (c x.val)] 90) ∧ a' = { tmps := #[.pointer (some ⟨b, 0, none⟩), .slice ad q cap, undef, undef, .pointer (some ⟨w.heap.size, 0, none⟩), .pointer (some ⟨w.heap.size + 1, 0, none⟩), .pointer (some ⟨w2.heap.size, 0, none⟩), .pointer (some ⟨Bx, 0, none⟩), .pointer (some ⟨b, 0, none⟩), .slice ad q cap, .bool true, .bool false, undef, .slice ad q cap, .slice (some ⟨g, 0, none⟩) (q + 1) cap', .pointer (some ⟨b, 0, none⟩), .func (.func 102) #[] #[.pointer (some ⟨w2.heap.size + 1, 0, none⟩)], .agg #[.int .i64 ((x.val / (n + 1) : Nat) : Int), .int .i64 ((x.val % (n + 1) : Nat) : Int), .int .i32 (c x.val)], undef, undef, undef, undef, undef, undef], defers := [] })
    (fun x a' _ X Y row hs hg hr => by obtain ⟨Bx, h1, h2, h3⟩ := hs; exact ⟨Bx, h1, objs_own Bx _ _ () X Y row h2 hg (fun r e => (hr r e).2), h3⟩)
    ?assign ?body ?done ?stop
  case assign =>
    rintro l pre x W K hI hK
    simp only [limVs6, limAt6]
    gi_wp2
    have hn := hI.1.2.2.2.2.2
    have hB := hI.2.size
    exact hK _ _ ((KeepsOthers.alloc _ _).from _) (KeepB.alloc W _ hB) ((brI_own w n m c L _ _ _ _ _ hB).alloc _ hI) ⟨W.heap.size, by omega, World.alloc_heap_new W _, rfl⟩
  case body =>
    rintro l pre x a' W hl - ⟨⟨h0, cR, cF, c6, hrow, hn6⟩, hB⟩ ⟨Bx, hBx, bX, rfl⟩ hlt
    have d0 : W.cell? ⟨Bx, 0, none⟩ = some (.int .i64 ((x.val / (n + 1) : Nat) : Int)) := by simp [World.cell?, bX]
    have d1 : W.cell? ⟨Bx, 1, none⟩ = some (.int .i64 ((x.val % (n + 1) : Nat) : Int)) := by simp [World.cell?, bX]
    have d2 : W.cell? ⟨Bx, 2, none⟩ = some (.int .i32 (c x.val)) := by simp [World.cell?, bX]
    have HK := hideR (hgap.out x.val W x.isLt hrow)
    have d6 := c6.cell
    have H0 := hideR h0
    have CR := hideR cR
    have CF := hideR cF
    have C6 := hideR c6
    have HR := hideR hrow
    clear cz hz4 hgap hm hI hf hok HV HZ h0 cR cF c6 hrow
    generalize hk : keepAt n c L x.val = t at *
    cases t with
    | true =>
      gi_wp2
      refine ⟨trivial, (callsIn_wide.2 HK.out).mono ?_⟩
      rintro e w1 ⟨rfl, hb⟩
      gi_wp2
      refine ⟨keepsFrom_below6 hb, KeepB.of hb hB.size, ⟨fun y hy => ?_, (hb.block _ (Array.getElem?_eq_some_iff.1 CR.out).1).trans CR.out, (hb.block _ CF.out.lt).trans CF.out, (hb.block _ C6.out.lt).trans C6.out, HR.out.past hb, Nat.lt_of_lt_of_le hn6 hb.size⟩, beyond hB hb⟩
      rcases List.mem_append.1 hy with h | h
      · exact H0.out y h
      · rw [List.mem_singleton.1 h]; exact hk
    | false =>
      gi_wp2
      refine ⟨trivial, (callsIn_wide.2 HK.out).mono ?_⟩
      rintro e w1 ⟨rfl, hb⟩
      have e0 := kc _ _ hb d0
      have e1 := kc _ _ hb d1
      have e2 := kc _ _ hb d2
      have R1 := (hb.block _ (Array.getElem?_eq_some_iff.1 CR.out).1).trans CR.out
      have F1 : Boxed w1 (w.heap.size + 1) 4 (.bool false) := (hb.block _ CF.out.lt).trans CF.out
      have r0 : w1.cell? ⟨w.heap.size, 0, none⟩ = some (.int .i64 0) := by simp [World.cell?, R1]
      have r1 : w1.cell? ⟨w.heap.size, 1, none⟩ = some (.int .i64 0) := by simp [World.cell?, R1]
      have r2 : w1.cell? ⟨w.heap.size, 2, none⟩ = some (.int .i32 0) := by simp [World.cell?, R1]
      have f0 : w1.frozen? ⟨w.heap.size, 0, none⟩ = false := by simp [World.frozen?, R1]
      have f1 : w1.frozen? ⟨w.heap.size, 1, none⟩ = false := by simp [World.frozen?, R1]
      have f2 : w1.frozen? ⟨w.heap.size, 2, none⟩ = false := by simp [World.frozen?, R1]
      have r3 := F1.cell
      have f3 := F1.frozen
      have HB := hideR (beyond hB hb)
      have KF := hideR (keepsFrom_below6 (B := W4.heap.size) hb)
      clear d0 d1 d2 d6 bX R1 F1 hb HK CR CF C6 HR H0
      gi_wp2
      obtain ⟨x0, x1, x2, x3⟩ := cells_four w1 (.int .i64 ((x.val / (n + 1) : Nat) : Int)) (.int .i64 ((x.val % (n + 1) : Nat) : Int)) (.int .i32 (c x.val)) (.bool true) w.heap.size (w.heap.size + 1) (by omega) _ _ _ _ r0 r1 r2 r3
      exact ⟨KF.out.trans ((keeps_four w1 (.bool true) _ _ _ _ _ _).from _), ⟨rfl, x, by simp, hk, x0, x1, x2, x3⟩, below_four HB.out _ _ _ _⟩
  case done =>
    rintro D ys W hD rfl ⟨⟨h0, cR, cF, c6, hrow, hn6⟩, hB⟩ hK
    have ha : allK n c L m = true := List.all_eq_true.2 (fun k hk => h0 ⟨k, List.mem_range.1 hk⟩ (List.mem_finRange _))
    have r0 : W.cell? ⟨w.heap.size, 0, none⟩ = some (.int .i64 0) := by simp [World.cell?, cR]
    have r1 : W.cell? ⟨w.heap.size, 1, none⟩ = some (.int .i64 0) := by simp [World.cell?, cR]
    have r2 : W.cell? ⟨w.heap.size, 2, none⟩ = some (.int .i32 0) := by simp [World.cell?, cR]
    have f0 : W.frozen? ⟨w.heap.size, 0, none⟩ = false := by simp [World.frozen?, cR]
    have f1 : W.frozen? ⟨w.heap.size, 1, none⟩ = false := by simp [World.frozen?, cR]
    have f2 : W.frozen? ⟨w.heap.size, 2, none⟩ = false := by simp [World.frozen?, cR]
    have r3 := cF.cell
    have f3 := cF.frozen
    have HA := hideR ha
    clear cR cF c6 hrow h0 hz4 cz hgap ha
    gi_wp2
    obtain ⟨x0, x1, x2, x3⟩ := cells_four W (.int .i64 0) (.int .i64 0) (.int .i32 0) (.bool false) w.heap.size (w.heap.size + 1) (by omega) _ _ _ _ r0 r1 r2 r3
    have hK2 := (keeps_four W (.bool false) (.int .i64 0) (.int .i64 0) (.int .i32 0) (.bool false) w.heap.size (w.heap.size + 1)).same D _ hK rfl
    have hB2 := below_four hB (.int .i64 0) (.int .i64 0) (.int .i32 0) (.bool false)
    generalize (((W.setCell ⟨w.heap.size, 0, none⟩ (.int .i64 0)).setCell ⟨w.heap.size, 1, none⟩ (.int .i64 0)).setCell ⟨w.heap.size, 2, none⟩ (.int .i32 0)).setCell ⟨w.heap.size + 1, 0, none⟩ (.bool false) = Y at *
    have y0 := cellPut (o' := .deferred none) hK2 rfl x0
    have y1 := cellPut (o' := .deferred none) hK2 rfl x1
    have y2 := cellPut (o' := .deferred none) hK2 rfl x2
    have y3 := cellPut (o' := .deferred none) hK2 rfl x3
    refine ⟨by simp, .inl ⟨_, _, rfl, run_takeDeferred hK2, ?_⟩⟩
    refine ⟨.tuple #[.agg #[.int .i64 0, .int .i64 0, .int .i32 0], .bool false], by simp [results, Tryz.results52, go_sem, y0, y1, y2, y3], ⟨0, 0, 0, by rw [HA.out]; rfl⟩, hB2.trans (belowK_b (w := w) (Nat.le_refl _) Y D _ _ (by have := B0.size; omega) hK2 rfl rfl)⟩
  case stop =>
    rintro D cd pre W hD hpre ⟨⟨rfl, x, h1, h2, x0, x1, x2, x3⟩, hB⟩ hK
    have ha : allK n c L m = false := by
      rw [Bool.eq_false_iff]
      intro h
      have := List.all_eq_true.1 h x.val (List.mem_range.2 x.isLt)
      rw [h2] at this
      cases this
    have HA := hideR ha
    clear cR cF c6 hrow hz4 cz hgap ha
    gi_wp2
    have y0 := cellPut (o' := .deferred none) hK rfl x0
    have y1 := cellPut (o' := .deferred none) hK rfl x1
    have y2 := cellPut (o' := .deferred none) hK rfl x2
    have y3 := cellPut (o' := .deferred none) hK rfl x3
    refine ⟨by simp, .inl ⟨_, _, rfl, run_takeDeferred hK, ?_⟩⟩
    refine ⟨.tuple #[.agg #[.int .i64 ((x.val / (n + 1) : Nat) : Int), .int .i64 ((x.val % (n + 1) : Nat) : Int), .int .i32 (c x.val)], .bool true], by simp [results, Tryz.results52, go_sem, y0, y1, y2, y3], ⟨_, _, _, by rw [HA.out]; rfl⟩, hB.trans (belowK_b (w := w) (Nat.le_refl _) W D _ _ (by have := B0.size; omega) hK rfl rfl)⟩
theorem in_no' (z v : Value) (w : World) (H : Hid (Calls Tryz.prog 51 #[z, v] w fun e w' => e = .returned (.bool false) ∧ Below w.heap.size w w')) : Calls Tryz.prog 18 #[z, v] w fun e w' => e = .returned (.bool false) ∧ Below w.heap.size w w' := by
  go_enter Tryz.func18, Tryz.ntmps18
  go_wp2_with fail
  refine H.out.mono ?_
  rintro e w1 ⟨rfl, hb⟩
  have HB := hideR hb
  clear hb H
  go_wp2_with fail
  go_ret
  exact ⟨rfl, HB.out⟩
theorem in_yes (z v : Value) (t : Bool) (w : World) (H : Hid (Calls Tryz.prog 51 #[z, v] w fun e w' => e = .returned (.bool true) ∧ Below w.heap.size w w')) (HB : Hid (∀ w', Below w.heap.size w w' → Calls Tryz.prog 52 #[z, v] w' fun e W' => (∃ x y z : Int, e = .returned (.tuple #[.agg #[.int .i64 x, .int .i64 y, .int .i32 z], .bool (!t)])) ∧ Below w'.heap.size w' W')) :
    Calls Tryz.prog 18 #[z, v] w fun e w' => e = .returned (.bool t) ∧ Below w.heap.size w w' := by
  go_enter Tryz.func18, Tryz.ntmps18
  go_wp2_with fail
  refine H.out.mono ?_
  rintro e w1 ⟨rfl, hb⟩
  have HC := hideR (HB.out w1 hb)
  have B1 := hideR hb
  clear hb H HB
  go_wp2_with fail
  refine HC.out.mono ?_
  rintro e w2 ⟨⟨x, y, z', rfl⟩, hb⟩
  have B2 := hideR (beyond (beyond B1.out hb) (single w2 (.cells #[.int .i64 x, .int .i64 y, .int .i32 z'] 90)))
  clear hb HC B1
  go_wp2_with fail
  go_ret
  exact ⟨by simp, B2.out⟩
/-- Is a valuation in a zone? -/
def inB (n m : Nat) (c : Row) (L : Rats) : Bool := fitB L n && allK n c L m
theorem inP_any (b n m q cap : Nat) (ad : Option Addr) (c : Row) (L : Rats) (w : World) (hn : n ≤ 8) (hm : m = (n + 1) * (n + 1)) (hz : ZoneAt w b n c) (hq : L.q = q) (q1 : q ≤ 9223372036854775807) (hnil : ad = none → q = 0 ∧ cap = 0) (hV : RatV w ad L) (hI : RatI L) :
    Calls Tryz.prog 18 #[.pointer (some ⟨b, 0, none⟩), .slice ad q cap] w fun e w' => e = .returned (.bool (inB n m c L)) ∧ Below w.heap.size w w' := by
  cases f : fitB L n
  · rw [show inB n m c L = false by simp [inB, f]]
    have H := fits_any6 b n q cap ad c L w hz hq q1 hV hI
    rw [f] at H
    refine in_no' _ _ w H
  · rw [show inB n m c L = allK n c L m by simp [inB, f]]
    have H := fits_any6 b n q cap ad c L w hz hq q1 hV hI
    rw [f] at H
    exact in_yes _ _ _ w H (fun w' hb => callsIn_wide.1 (breaks_in b n m q cap ad c L w' hn hm (hz.past hb) hq hnil (hV.later hb) hI f))
end Go.Proofs.YtnfkmpickmonoaaGreat
