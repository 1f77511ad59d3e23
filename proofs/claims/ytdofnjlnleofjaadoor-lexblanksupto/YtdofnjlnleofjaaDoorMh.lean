/-
  lex.All: its walk.
-/
import Derived.Test.YtdofnjlnleofjaaDoorMg
namespace Go.Proofs.YtdofnjlnleofjaaDoor
open Go.RowKit Go.Shelf
set_option linter.unusedVariables false
attribute [local go_sem] Oper.semAt_some
theorem toks_stops (n : Nat) (hn : 1 ≤ n) (s : ByteArray) (hs : s.size ≤ 140737488355328) (Bs Bl n₀ : Nat) (w : World) (hBs : Boxed w Bs 9 (.string s)) (b1 : Bl < w.heap.size) (b2 : Bs ≠ Bl) (ho : ownAt Bl w = none) :
    SeqStopsK Fence.wide n Tryd.prog 8 #[.pointer (some ⟨Bs, 0, none⟩)] itemVs (KeepT n₀ Bl) (fun ys => ys = itemsL s) (fun pre => pre <+: itemsL s) (s.size + 1) w := fun l J Jx W hW hJ _ hY h0 =>
  tokens1_in n hn s hs l Bs Bl n₀ w.heap.size J Jx hY W hJ ((hW.block Bs hBs.lt).trans hBs) hBs.lt b1 b2 hW.size (by rw [ownAt_of (hW.cell (p := ⟨Bl, 0, none⟩) b1)]; exact ho) h0
theorem items_some (s : ByteArray) : ∃ k, (itemsL s).length = k + 1 := by
  unfold itemsL
  rw [itemsG]
  split
  · exact ⟨_, rfl⟩
  · exact ⟨_, rfl⟩
theorem boxed_put {W : World} {B D : Nat} {t : TypeId} {v : Value} {o : Obj} (h : Boxed W B t v) (hK : W.heap[D]? = some o) (ho : o.isCells = false) (o' : Obj) : Boxed (W.putObj D o') B t v :=
  h.kept (grownBy_putObj' W D o') (fun e => by
    injection e with e
    subst e
    rw [show W.heap[B]? = _ from h] at hK
    cases hK
    cases ho)
theorem row_set {W : World} {base : Nat} {e : TypeId} {size k : Nat} {v : Value} {xs : List Value} (h : W.ownsRow base e size v k xs) {b : Nat} (hb : some b ≠ v.ownBlock) (u : Value) : (W.setCell ⟨b, 0, none⟩ u).ownsRow base e size v k xs :=
  h.kept (grownBy_setCell' W b u) (.inr hb.symm)
theorem row_set3 {W : World} {base : Nat} {e : TypeId} {size k : Nat} {v : Value} {xs : List Value} (h : W.ownsRow base e size v k xs) {b c d : Nat} (hb : some b ≠ v.ownBlock) (hc : some c ≠ v.ownBlock) (hd : some d ≠ v.ownBlock) (u x y : Value) : (((W.setCell ⟨b, 0, none⟩ u).setCell ⟨c, 0, none⟩ x).setCell ⟨d, 0, none⟩ y).ownsRow base e size v k xs :=
  row_set (row_set (row_set h hb u) hc x) hd y
theorem err_end (w W : World) (B : Nat) (pre : List Item) (x : Item) (c : ¬ x.2.2.2.2 = 0) (bR : Boxed W w.heap.size 22 (.slice none 0 0)) (bE : Boxed W (w.heap.size + 1) 23 (.int .i64 0)) (bA : Boxed W (w.heap.size + 1 + 1) 3 (.int .i64 0)) (hB : Below w.heap.size w W) :
    KeepsFrom B W (((W.setCell ⟨w.heap.size, 0, none⟩ (.slice none 0 0)).setCell ⟨w.heap.size + 1, 0, none⟩ (.int .i64 x.2.2.2.2)).setCell ⟨w.heap.size + 1 + 1, 0, none⟩ (.int .i64 x.2.2.2.1)).drew ∧
    AllX w .ret (pre ++ [x]) (((W.setCell ⟨w.heap.size, 0, none⟩ (.slice none 0 0)).setCell ⟨w.heap.size + 1, 0, none⟩ (.int .i64 x.2.2.2.2)).setCell ⟨w.heap.size + 1 + 1, 0, none⟩ (.int .i64 x.2.2.2.1)).drew :=
  ⟨((((KeepsOthers.setCell W _ _).trans (KeepsOthers.setCell _ _ _)).trans (KeepsOthers.setCell _ _ _)).trans (KeepsOthers.drew _)).from _,
   ⟨rfl, x, by simp, c, ((bR.set (.slice none 0 0)).other (by omega) (.int .i64 x.2.2.2.2)).other (by omega) (.int .i64 x.2.2.2.1), ((bE.other (by omega) (.slice none 0 0)).set (.int .i64 x.2.2.2.2)).other (by omega) (.int .i64 x.2.2.2.1), ((bA.other (by omega) (.slice none 0 0)).other (by omega) (.int .i64 x.2.2.2.2)).set (.int .i64 x.2.2.2.1)⟩,
   (((hB.setCell (p := ⟨w.heap.size, 0, none⟩) (Nat.le_refl _) _).setCell (p := ⟨w.heap.size + 1, 0, none⟩) (Nat.le_succ _) _).setCell (p := ⟨w.heap.size + 1 + 1, 0, none⟩) (by show _ ≤ w.heap.size + 1 + 1; omega) _).drew⟩
set_option maxRecDepth 100000 in
set_option maxHeartbeats 4000000 in
theorem all_in (s : ByteArray) (hs : s.size ≤ 1000000000000) (w : World) : CallsIn Fence.wide 6 Tryd.prog 4 #[.string s] w fun e W' => AllR s w e W' := by
  obtain ⟨i0, hi, hz0, hz1, hz2⟩ := info_parts infoTok
  refine callsIn_of_wp_marks Tryd.func4 rfl trivial ?_ rfl
  simp only [Tryd.ntmps4, List.size_toArray, List.length_cons, List.length_nil, Nat.reduceAdd, Nat.reduceSub, Array.replicate_succ, Array.replicate_zero, List.push_toArray, List.append_toArray, List.nil_append, List.cons_append]
  gi_wp2
  refine ⟨trivial, (tokens_in _ s _).mono ?_⟩
  rintro e w' ⟨rfl, rfl⟩
  gi_wp2
  have bR := (((Boxed.new w 22 (.slice none 0 0)).alloc (.cells #[.int .i64 0] 23)).alloc (.cells #[.int .i64 0] 3)).alloc (.cells #[.slice none 0 0] 22)
  have bE := ((Boxed.new (w.alloc (.cells #[.slice none 0 0] 22)) 23 (.int .i64 0)).alloc (.cells #[.int .i64 0] 3)).alloc (.cells #[.slice none 0 0] 22)
  have bA := (Boxed.new ((w.alloc (.cells #[.slice none 0 0] 22)).alloc (.cells #[.int .i64 0] 23)) 3 (.int .i64 0)).alloc (.cells #[.slice none 0 0] 22)
  have bL := Boxed.new (((w.alloc (.cells #[.slice none 0 0] 22)).alloc (.cells #[.int .i64 0] 23)).alloc (.cells #[.int .i64 0] 3)) 22 (.slice none 0 0)
  have hB0 : Below w.heap.size w ((((w.alloc (.cells #[.slice none 0 0] 22)).alloc (.cells #[.int .i64 0] 23)).alloc (.cells #[.int .i64 0] 3)).alloc (.cells #[.slice none 0 0] 22)) := ((((Below.refl _ w).alloc (Nat.le_refl _) _).alloc (by simp) _).alloc (by simp; omega) _).alloc (by simp; omega) _
  have hsz : ((((w.alloc (.cells #[.slice none 0 0] 22)).alloc (.cells #[.int .i64 0] 23)).alloc (.cells #[.int .i64 0] 3)).alloc (.cells #[.slice none 0 0] 22)).heap.size = w.heap.size + 1 + 1 + 1 + 1 := by simp
  simp only [World.size_alloc] at bE bA bL
  obtain ⟨W1, hW1⟩ : ∃ W1, (((w.alloc (.cells #[.slice none 0 0] 22)).alloc (.cells #[.int .i64 0] 23)).alloc (.cells #[.int .i64 0] 3)).alloc (.cells #[.slice none 0 0] 22) = W1 := ⟨_, rfl⟩
  rw [hW1] at bR bE bA bL hB0 hsz ⊢
  clear hW1
  have bS := Boxed.new W1 9 (.string s)
  rw [hsz] at bS
  replace bR := bR.alloc (.cells #[.string s] 9)
  replace bE := bE.alloc (.cells #[.string s] 9)
  replace bA := bA.alloc (.cells #[.string s] 9)
  replace bL := bL.alloc (.cells #[.string s] 9)
  replace hB0 := hB0.alloc (by omega) (.cells #[.string s] 9)
  have hsz2 : (W1.alloc (.cells #[.string s] 9)).heap.size = w.heap.size + 1 + 1 + 1 + 1 + 1 := by simp [hsz]
  obtain ⟨W0, hW0⟩ : ∃ W0, W1.alloc (.cells #[.string s] 9) = W0 := ⟨_, rfl⟩
  rw [hW0] at bR bE bA bL bS hB0 hsz2 ⊢
  clear hW0
  refine wpIn_rangeFunc_ownH rfl (by omega) (gf := 8) (lb := #[.pointer (some ⟨w.heap.size + 1 + 1 + 1 + 1, 0, none⟩)]) (by simp [Act.eval, go_sem]) trivial (enters_of Tryd.func8 (by kernel_rfl) rfl)
    (toks_stops 5 (by omega) s (by omega) (w.heap.size + 1 + 1 + 1 + 1) (w.heap.size + 1 + 1 + 1) w.heap.size W0 bS (by omega) (by omega) (by rw [ownAt_box bL]; rfl)) KeepT.trans (KeepT.put (by omega) (by omega)) (Below.refl _ _) (fun _ => rfl)
    (AllI w) (AllX w) (allI_own w _ (by omega)) (fun c => allX_own w c _ (by omega))
    ⟨⟨⟨_, bL, World.ownsRow_nil _ _ _ _, fun g h => by simp [Value.ownBlock] at h⟩, by simp, bR, bE, bA, by omega⟩, hB0⟩
    (fun x a' W => ∃ Bx, w.heap.size + 1 + 1 + 1 + 1 < Bx ∧ W.heap[Bx]? = some (.cells #[.int .u8 x.1, .string x.2.1, .int .i64 x.2.2.1, .int .i64 x.2.2.2.1] 30) ∧ a' = { tmps := #[.string s, undef, .pointer (some ⟨w.heap.size, 0, none⟩), .pointer (some ⟨w.heap.size + 1, 0, none⟩), .pointer (some ⟨w.heap.size + 1 + 1, 0, none⟩), .pointer (some ⟨w.heap.size + 1 + 1 + 1, 0, none⟩), .pointer (some ⟨Bx, 0, none⟩), .int .i64 x.2.2.2.2, .string s, .func (.func 8) #[] #[.pointer (some ⟨w.heap.size + 1 + 1 + 1 + 1, 0, none⟩)], .agg #[.int .u8 x.1, .string x.2.1, .int .i64 x.2.2.1, .int .i64 x.2.2.2.1], .int .i64 x.2.2.2.2, undef, undef, undef, undef, undef, undef, undef, undef, undef, undef], defers := [] })
    (fun x a' _ X Y row hs hg hr => by obtain ⟨Bx, h1, h2, h3⟩ := hs; exact ⟨Bx, h1, objs_own Bx _ _ () X Y row h2 hg (fun r e => (hr r e).2), h3⟩)
    ?assign ?body ?done ?stop
  case assign =>
    rintro l pre x W K hI hK
    gi_wp2
    have hn := hI.1.2.2.2.2.2
    exact hK _ _ ((KeepsOthers.alloc _ _).from _) (KeepT.alloc W _ (by omega) (by omega)) ((allI_own w _ (Nat.le_refl _)).alloc _ hI) ⟨W.heap.size, by omega, World.alloc_heap_new W _, rfl⟩
  case body =>
    rintro l pre x a' W hl - ⟨⟨⟨v, bv, hrow, hg⟩, h0, bR, bE, bA, hn⟩, hB⟩ ⟨Bx, hBx, bX, rfl⟩ hlt
    clear bS bL hB0
    obtain ⟨x0, x1, x2, x3, x4⟩ := x
    simp only at bX ⊢
    have c0 : W.cell? ⟨Bx, 0, none⟩ = some (.int .u8 x0) := by simp [World.cell?, bX]
    have c1 : W.cell? ⟨Bx, 1, none⟩ = some (.string x1) := by simp [World.cell?, bX]
    have c2 : W.cell? ⟨Bx, 2, none⟩ = some (.int .i64 x2) := by simp [World.cell?, bX]
    have c3 : W.cell? ⟨Bx, 3, none⟩ = some (.int .i64 x3) := by simp [World.cell?, bX]
    by_cases c : x4 = 0
    · subst c
      have hc := bv.cell
      have hpl : pre.length * 40 + 40 ≤ 140737488355328 := by omega
      gi_wp2_with (gi_at_builtin; refine wpListIn_append_own_at _ rfl _ _ 22 rfl w.heap.size 30 i0 (.agg #[.int .u8 0, .string ⟨#[]⟩, .int .i64 0, .int .i64 0]) 4 40 Tryd.underlying22 hi hz0 hz1 hz2 rfl (by decide) _ _ _ rfl (hrow.alloc _) ⟨W.heap.size, 0, none⟩ 1 1 [.int .u8 x0, .string x1, .int .i64 x2, .int .i64 x3] rfl rfl (cell_four _ _ _ _ _ _) (by simp [Value.oneCell']) (by simp only [maxLen]; omega) (by omega) (by simp; omega) ?_; intro v' w1 hown' hgrow _ hat; obtain ⟨g', cap', rfl⟩ := ownsRow_succ hown'; obtain ⟨hv1, hv2, hr2, hk2, hb2⟩ := bv.appended (by decide) hrow (by omega) (by omega) hown' hgrow; have hc1 := hv1.cell; have hf1 := hv1.frozen)
      have hkt := KeepT.appended bv hv2 hown' hgrow hat hb2
      have eo := ownAt_box bv
      refine ⟨hk2.from _, hkt, ⟨⟨_, hv2, by rw [cells_snoc]; simpa using hr2, fun g q => ?_⟩, ?_, hkt.same _ _ bR rfl (by omega) (by rw [eo]; exact bR.not_row (by decide) hrow), hkt.same _ _ bE rfl (by omega) (by rw [eo]; exact bE.not_row (by decide) hrow), hkt.same _ _ bA rfl (by omega) (by rw [eo]; exact bA.not_row (by decide) hrow), Nat.le_trans hn hb2.size⟩, hB.trans hb2⟩
      · rcases hat with e | e
        · exact hg g (e.symm.trans q)
        · rw [e] at q
          injection q with q
          rw [World.size_alloc] at q
          omega
      · intro y hy
        rcases List.mem_append.1 hy with h | h
        · exact h0 y h
        · rw [List.mem_singleton.1 h]
    · have c' : (x4 == 0) = false := by simpa using c
      have r1 := bR.cell
      have r2 := bR.frozen
      have e1 := bE.cell
      have e2 := bE.frozen
      have a1 := bA.cell
      have a2 := bA.frozen
      have mixed : Tryd.prog.follows Departure.mixedOrders = true := by kernel_rfl
      gi_wp2
      gi_region_o
      all_goals gi_wp2
      all_goals exact err_end w W W0.heap.size pre (x0, x1, x2, x3, x4) c bR bE bA hB
  case done =>
    rintro D ys W hD rfl ⟨⟨⟨v, bv, hrow, hg⟩, h0, bR, bE, bA, hn⟩, hB⟩ hK
    obtain ⟨k, hk⟩ := items_some s
    have hrow' := hrow
    rw [hk] at hrow'
    obtain ⟨g, cap, rfl⟩ := ownsRow_succ hrow'
    have hc := bv.cell
    have r1 := bR.cell
    have r2 := bR.frozen
    have e1 := bE.cell
    have e2 := bE.frozen
    have a1 := bA.cell
    have a2 := bA.frozen
    gi_wp2
    have kR := ((bR.set (.slice (some ⟨g, 0, none⟩) (k + 1) cap)).other (show w.heap.size ≠ w.heap.size + 1 by omega) (.int .i64 0)).other (show w.heap.size ≠ w.heap.size + 1 + 1 by omega) (.int .i64 0)
    have kE := ((bE.other (show w.heap.size + 1 ≠ w.heap.size by omega) (.slice (some ⟨g, 0, none⟩) (k + 1) cap)).set (.int .i64 0)).other (show w.heap.size + 1 ≠ w.heap.size + 1 + 1 by omega) (.int .i64 0)
    have kA := ((bA.other (show w.heap.size + 1 + 1 ≠ w.heap.size by omega) (.slice (some ⟨g, 0, none⟩) (k + 1) cap)).other (show w.heap.size + 1 + 1 ≠ w.heap.size + 1 by omega) (.int .i64 0)).set (.int .i64 0)
    have hK2 := ((KeepsOthers.setCell W ⟨w.heap.size, 0, none⟩ (.slice (some ⟨g, 0, none⟩) (k + 1) cap)).trans ((KeepsOthers.setCell _ ⟨w.heap.size + 1, 0, none⟩ (.int .i64 0)).trans (KeepsOthers.setCell _ ⟨w.heap.size + 1 + 1, 0, none⟩ (.int .i64 0)))).same D _ hK rfl
    have nb : ∀ b, b < w.heap.size + 1 + 1 + 1 → some b ≠ (Value.slice (some ⟨g, 0, none⟩) (k + 1) cap).ownBlock := fun b hb q => by
      have := hg b q.symm
      omega
    have hr2 := row_set3 hrow (nb w.heap.size (by omega)) (nb (w.heap.size + 1) (by omega)) (nb (w.heap.size + 1 + 1) (by omega)) (.slice (some ⟨g, 0, none⟩) (k + 1) cap) (.int .i64 0) (.int .i64 0)
    have hB2 := ((hB.setCell (p := ⟨w.heap.size, 0, none⟩) (Nat.le_refl _) (.slice (some ⟨g, 0, none⟩) (k + 1) cap)).setCell (p := ⟨w.heap.size + 1, 0, none⟩) (Nat.le_succ _) (.int .i64 0)).setCell (p := ⟨w.heap.size + 1 + 1, 0, none⟩) (by show _ ≤ w.heap.size + 1 + 1; omega) (.int .i64 0)
    generalize ((W.setCell ⟨w.heap.size, 0, none⟩ (.slice (some ⟨g, 0, none⟩) (k + 1) cap)).setCell ⟨w.heap.size + 1, 0, none⟩ (.int .i64 0)).setCell ⟨w.heap.size + 1 + 1, 0, none⟩ (.int .i64 0) = Y at *
    have y1 := (boxed_put kR hK2 rfl (.deferred none)).cell
    have y2 := (boxed_put kE hK2 rfl (.deferred none)).cell
    have y3 := (boxed_put kA hK2 rfl (.deferred none)).cell
    refine ⟨by simp, .inl ⟨_, _, rfl, run_takeDeferred hK2, ?_⟩⟩
    refine ⟨.tuple #[.slice (some ⟨g, 0, none⟩) (k + 1) cap, .int .i64 0, .int .i64 0], by simp [results, Tryd.results4, go_sem, y1, y2, y3], .inr ⟨_, h0, rfl, ownsRow_putObj hr2 _ hK2 rfl⟩, hB2.trans (belowK_b (w := w) (Nat.le_refl _) Y D _ _ (by omega) hK2 rfl rfl)⟩
  case stop =>
    rintro D c pre W hD hpre ⟨⟨rfl, x, h1, h2, bR, bE, bA⟩, hB⟩ hK
    have r1 := bR.cell
    have e1 := bE.cell
    have a1 := bA.cell
    gi_wp2
    have y1 := (boxed_put bR hK rfl (.deferred none)).cell
    have y2 := (boxed_put bE hK rfl (.deferred none)).cell
    have y3 := (boxed_put bA hK rfl (.deferred none)).cell
    refine ⟨by simp, .inl ⟨_, _, rfl, run_takeDeferred hK, ?_⟩⟩
    refine ⟨.tuple #[.slice none 0 0, .int .i64 x.2.2.2.2, .int .i64 x.2.2.2.1], by simp [results, Tryd.results4, go_sem, y1, y2, y3], .inl ⟨x, items_prefix_err s _ _ pre x hpre h1 h2, h2, rfl⟩, hB.trans (belowK_b (w := w) (Nat.le_refl _) W D _ _ (by omega) hK rfl rfl)⟩
end Go.Proofs.YtdofnjlnleofjaaDoor
