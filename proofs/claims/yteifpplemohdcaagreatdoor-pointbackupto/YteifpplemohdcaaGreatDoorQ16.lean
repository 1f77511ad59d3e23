/-
  (point.grid).least: its rounds.
-/
import Derived.Test.YteifpplemohdcaaGreatDoorQ15
namespace Go.Proofs.YteifpplemohdcaaGreatDoor
open Go.RowKit Go.Shelf
set_option linter.unusedVariables false
set_option maxRecDepth 100000
attribute [local go_sem] Oper.semAt_some
theorem info_units : (Tryz.prog.info? 2).map (fun i => (i.zero, i.size, i.bytes)) = some (some (.int .i64 0), 1, 8) := by kernel_rfl
theorem make_units (N : Nat) (hb : N ≤ 100) (w : World) :
    (Instr.makeSlice 76 (.int .i64 (N : Int)) (.int .i64 (N : Int))).run Tryz.prog w = .ok (.slice (some ⟨w.heap.size, 0, none⟩) N N) (w.alloc (.cells (madeCells #[.int .i64 0] (N * 1)) 2)) := by
  obtain ⟨i, hi, hzz⟩ := Option.map_eq_some_iff.1 info_units
  simp only [Prod.mk.injEq] at hzz
  obtain ⟨hz, hs, hb'⟩ := hzz
  have hB : (i.bytes : Int) * (N : Int) ≤ 281474976710656 := by rw [hb']; omega
  have hr := run_make (P := Tryz.prog) w 76 2 i _ Tryz.underlying76 hi hz .i64 .i64 N N (by omega) (Int.le_refl _) hB (by omega)
  simp only [Int.toNat_natCast, hs] at hr
  exact hr
/-- The numbers, in a block. -/
def UnitsAt (W : World) (gu N : Nat) (v : Val) : Prop := ∃ cs, W.heap[gu]? = some (.cells cs 2) ∧ cs.size = N ∧ ∀ j, j < N → cs[j]? = some (.int .i64 (v j))
theorem UnitsAt.cell {W : World} {gu N : Nat} {v : Val} (h : UnitsAt W gu N v) (j : Nat) (hj : j < N) : W.cell? ⟨gu, j, none⟩ = some (.int .i64 (v j)) := by
  obtain ⟨cs, h1, h2, h3⟩ := h
  simp [World.cell?, h1, h3 j hj]
theorem UnitsAt.frozen {W : World} {gu N : Nat} {v : Val} (h : UnitsAt W gu N v) (j : Nat) : W.frozen? ⟨gu, j, none⟩ = false := by
  obtain ⟨cs, h1, h2, h3⟩ := h
  simp [World.frozen?, h1]
theorem UnitsAt.own {β : Type} (gu N : Nat) (f : β → Val) : Own (fun s W => UnitsAt W gu N (f s)) := fun s X Y row hs hg hrow => by
  obtain ⟨cs, h1, h2, h3⟩ := hs
  exact ⟨cs, objs_own (β := Unit) gu cs 2 () X Y row h1 hg hrow, h2, h3⟩
theorem UnitsAt.new (w : World) (N : Nat) : UnitsAt (w.alloc (.cells (madeCells #[.int .i64 0] (N * 1)) 2)) w.heap.size N (fun _ => 0) :=
  ⟨_, World.alloc_heap_new w _, by simp [madeCells], fun j hj => by simp [madeCells, hj, Nat.mod_one]⟩
theorem UnitsAt.past {W W' : World} {gu N : Nat} {v : Val} (h : UnitsAt W gu N v) (hb : Below W.heap.size W W') : UnitsAt W' gu N v := by
  obtain ⟨cs, h1, h2, h3⟩ := h
  exact ⟨cs, (hb.block gu (Array.getElem?_eq_some_iff.1 h1).1).trans h1, h2, h3⟩
theorem UnitsAt.set {W : World} {gu N : Nat} {v : Val} (h : UnitsAt W gu N v) (k : Nat) (hk : k < N) (x : Int) : UnitsAt (W.setCell ⟨gu, k, none⟩ (.int .i64 x)) gu N (updV v k x) := by
  obtain ⟨cs, h1, h2, h3⟩ := h
  refine ⟨cs.setIfInBounds k (.int .i64 x), ?_, by simp [h2], fun j hj => ?_⟩
  · unfold World.setCell
    simp [Array.getElem?_modify, h1]
  · unfold updV
    by_cases e : j = k
    · subst e
      simp [h2, hj]
    · rw [if_neg e, Array.getElem?_setIfInBounds_ne (by omega)]
      exact h3 j hj
def markD (D : Nat) : Deferred := { target := .collected D, args := #[] }
theorem leaves_marks {F : Fence} {k : Nat} {P : Program} {fn : Func} {tmps : Array Value} {R : Ending → World → Prop} (base : Nat) : ∀ (Ds : List Nat) (w : World), Ds.Nodup → (∀ D ∈ Ds, base ≤ D ∧ w.heap[D]? = some (.deferred (some []))) → (∀ w', KeepB base none w w' → LeavesIn F k P fn tmps R [] .returning w') → LeavesInM F k P fn tmps R (Ds.map markD) .returning w
  | [], w, _, _, h => h w ⟨Below.refl _ _, fun _ _ hb _ _ => hb⟩
  | D :: Ds, w, hn, hD, h => by
    have h1 := hD D (by simp)
    have nd := List.nodup_cons.1 hn
    refine ⟨by simp, .inl ⟨D, _, rfl, run_takeDeferred h1.2, ?_⟩⟩
    have kb : KeepB base none w (w.putObj D (.deferred none)) := ⟨⟨rfl, rfl, rfl, by simp [World.putObj], fun j hj => World.putObj_heap_other (by omega)⟩, fun b o hb ho _ => by
      have ne : b ≠ D := fun e => by subst e; rw [h1.2] at hb; cases hb; cases ho
      rw [World.putObj_heap_other ne]
      exact hb⟩
    refine leaves_marks base Ds _ nd.2 (fun D' hD' => ?_) (fun w' hw => h w' (kb.trans hw))
    have h2 := hD D' (List.mem_cons_of_mem _ hD')
    have ne : D' ≠ D := fun e => nd.1 (e ▸ hD')
    exact ⟨h2.1, (World.putObj_heap_other ne).trans h2.2⟩
theorem rounds_bd {n m : Nat} {c : Row} {g : Int} (hm : m = (n + 1) * (n + 1)) (hc : ∀ k, rightB (c k) = true) (g0 : 1 ≤ g) (g1 : g ≤ 9) : ∀ (K j : Nat), 0 ≤ gRounds n (pW n c) g K (fun _ => 0) j ∧ gRounds n (pW n c) g K (fun _ => 0) j ≤ (K : Int) * ((m : Int) * 2415919105)
  | 0, j => by simp [gRounds]
  | K + 1, j => by
    have h := fold_bd (n := n) hc g0 g1 (List.finRange m) (rounds_bd hm hc g0 g1 K) j
    rw [fold_all n m (pW n c) g _ hm, List.length_finRange] at h
    have e : ((K + 1 : Nat) : Int) * ((m : Int) * 2415919105) = (K : Int) * ((m : Int) * 2415919105) + (m : Int) * 2415919105 := by push_cast; rw [Int.add_mul, Int.one_mul]
    rw [e]
    exact h
/-- What lies in memory. -/
def LeI (w : World) (g : Int) (N : Nat) (v : Val) (Ds : List Nat) (top : Nat) (W : World) : Prop :=
  UnitsAt W (w.heap.size + 1) N v ∧ Boxed W w.heap.size 73 (.int .i64 g) ∧ Boxed W (w.heap.size + 1 + 1) 76 (.slice (some ⟨w.heap.size + 1, 0, none⟩) N N) ∧ (∀ D ∈ Ds, w.heap.size ≤ D ∧ D < top ∧ W.heap[D]? = some (.deferred (some []))) ∧ top ≤ W.heap.size ∧ Below w.heap.size w W
theorem leI_own {β : Type} (w : World) (g : Int) (N : Nat) (f : β → Val) (Ds : List Nat) (top B : Nat) (hB : w.heap.size ≤ B) (ht : top ≤ B) : OwnFrom B (fun (s : β) W => LeI w g N (f s) Ds top W) := fun s X Y row hs hg hr => by
  obtain ⟨h1, h2, h3, h4, h5, h6⟩ := hs
  have hr' : ∀ r, row = some r → ∃ o : Obj, X.heap[r]? = some o ∧ o.isCells = false := fun r e => (hr r e).2
  refine ⟨UnitsAt.own _ _ f s X Y row h1 hg hr', boxed_own _ _ (fun (_ : Unit) => _) () X Y row h2 hg hr', boxed_own _ _ (fun (_ : Unit) => _) () X Y row h3 hg hr', fun D hD => ?_, Nat.le_trans h5 hg.size, ownFrom_below (β := Unit) (Nat.le_refl _) hB () X Y row h6 hg hr⟩
  obtain ⟨a, b, c⟩ := h4 D hD
  refine ⟨a, b, (hg.block D (Array.getElem?_eq_some_iff.1 c).1 (fun e => ?_)).trans c⟩
  have := (hr D e.symm).1
  omega
theorem LeI.up {w : World} {g : Int} {N : Nat} {v : Val} {Ds : List Nat} {top t' : Nat} {W : World} (h : LeI w g N v Ds top W) (h1 : top ≤ t') (h2 : t' ≤ W.heap.size) : LeI w g N v Ds t' W :=
  ⟨h.1, h.2.1, h.2.2.1, fun D hD => ⟨(h.2.2.2.1 D hD).1, Nat.lt_of_lt_of_le (h.2.2.2.1 D hD).2.1 h1, (h.2.2.2.1 D hD).2.2⟩, h2, h.2.2.2.2.2⟩
theorem grownBy_setAt (W : World) (b k : Nat) (v : Value) : W.grownBy (W.setCell ⟨b, k, none⟩ v) (some b) :=
  ⟨rfl, rfl, rfl, (KeepsWalks.setCell W _ v).size, fun j _ hk => Below.heap_setCell _ _ _ j (fun e => hk (by rw [e]))⟩
theorem LeI.set {w : World} {g : Int} {N : Nat} {v : Val} {Ds : List Nat} {top : Nat} {W : World} (h : LeI w g N v Ds top W) (k : Nat) (hk : k < N) (x : Int) : LeI w g N (updV v k x) Ds top (W.setCell ⟨w.heap.size + 1, k, none⟩ (.int .i64 x)).drew := by
  obtain ⟨h1, h2, h3, h4, h5, h6⟩ := h
  have hg := grownBy_setAt W (w.heap.size + 1) k (.int .i64 x)
  refine ⟨h1.set k hk x, show Boxed (W.setCell ⟨w.heap.size + 1, k, none⟩ (.int .i64 x)) _ _ _ from h2.kept hg (fun e => by injection e with e; omega), show Boxed (W.setCell ⟨w.heap.size + 1, k, none⟩ (.int .i64 x)) _ _ _ from h3.kept hg (fun e => by injection e with e; omega), fun D hD => ?_, Nat.le_trans h5 hg.size, (h6.setCell (p := ⟨w.heap.size + 1, k, none⟩) (Nat.le_succ _) _).drew⟩
  obtain ⟨a, b, c⟩ := h4 D hD
  refine ⟨a, b, (hg.block D (Array.getElem?_eq_some_iff.1 c).1 (fun e => ?_)).trans c⟩
  injection e with e
  obtain ⟨cs, h7, _⟩ := h1
  rw [← e] at h7
  rw [h7] at c
  cases c
theorem keepB_set {n₀ g k : Nat} {W : World} (hn : n₀ ≤ g) (x : Value) : KeepB n₀ (some g) W (W.setCell ⟨g, k, none⟩ x).drew :=
  ⟨((Below.refl n₀ W).setCell (p := ⟨g, k, none⟩) hn _).drew, fun b o hb _ hne => (((grownBy_setAt W g k x).block b (Array.getElem?_eq_some_iff.1 hb).1 hne)).trans hb⟩
theorem step_none {n : Nat} {c : Row} {g : Int} {v : Val} {k : Nat} (h : c k = 2147483647) : stepK n (pW n c) g v k = v := by
  unfold stepK gStep
  rw [pW_at, if_pos h, if_pos rfl]
theorem step_some {n : Nat} {c : Row} {g : Int} {v : Val} {k : Nat} (h : finB (c k) = true) : stepK n (pW n c) g v k = updV v (k % (n + 1)) (max (v (k % (n + 1))) (v (k / (n + 1)) - gW (c k) g)) := by
  simp only [finB, decide_eq_true_eq] at h
  have ho := opn_val
  unfold stepK gStep
  rw [pW_at, if_neg (show ¬ c k = 2147483647 by omega), if_neg (show ¬ c k = opn by omega)]
  split
  · rename_i hl
    rw [Int.max_eq_right (by omega)]
  · rename_i hl
    rw [Int.max_eq_left (by omega)]
    funext j
    unfold updV
    split
    · rename_i e; rw [e]
    · rfl
theorem LeI.past {w : World} {g : Int} {N : Nat} {v : Val} {Ds : List Nat} {top : Nat} {W W' : World} (h : LeI w g N v Ds top W) (hb : Below W.heap.size W W') : LeI w g N v Ds top W' := by
  obtain ⟨h1, h2, h3, h4, h5, h6⟩ := h
  exact ⟨h1.past hb, (hb.block _ h2.lt).trans h2, (hb.block _ h3.lt).trans h3, fun D hD => ⟨(h4 D hD).1, (h4 D hD).2.1, (hb.block D (Array.getElem?_eq_some_iff.1 (h4 D hD).2.2).1).trans (h4 D hD).2.2⟩, Nat.le_trans h5 hb.size, beyond h6 hb⟩
set_option maxHeartbeats 4000000 in
theorem least_in (b n m N : Nat) (c : Row) (w : World) (g : Int) (hN : N = n + 1) (hn : n ≤ 8) (hm : m = (n + 1) * (n + 1)) (hz : ZoneAt w b n c) (hc : ∀ k, rightB (c k) = true) (hg : g = (n : Int) + 1) :
    CallsIn Fence.wide 6 Tryz.prog 41 #[.int .i64 g, .pointer (some ⟨b, 0, none⟩)] w fun e W' => (∃ gu, e = .returned (.slice (some ⟨gu, 0, none⟩) N N) ∧ w.heap.size ≤ gu ∧ ∀ j, j ≤ n → W'.cell? ⟨gu, j, none⟩ = some (.int .i64 (gRounds n (pW n c) g n (fun _ => 0) j))) ∧ Below w.heap.size w W' := by
  have ws : wrap64 ((n : Int) + 1) = (N : Int) := by rw [hN]; unfold wrap64; omega
  have HD := hideR (fun W (h : Below w.heap.size w W) => dim_any b n c W (hz.past h))
  have c2 := Boxed.new w 73 (.int .i64 g)
  have B0 := single w (.cells #[.int .i64 g] 73)
  have hmk := make_units N (by omega) (w.alloc (.cells #[.int .i64 g] 73))
  have HZ := hideR hz
  have HG := hideR hg
  have HN := hideR hN
  have HNN := hideR hn
  have HM := hideR hm
  clear hz hg hN hn hm
  refine callsIn_of_wp_marks Tryz.func41 rfl trivial ?_ rfl
  simp only [Tryz.ntmps41, List.size_toArray, List.length_cons, List.length_nil, Nat.reduceAdd, Nat.reduceSub, Array.replicate_succ, Array.replicate_zero, List.push_toArray, List.append_toArray, List.nil_append, List.cons_append]
  gi_wp2
  refine ⟨trivial, (callsIn_wide.2 (HD.out _ B0)).mono ?_⟩
  rintro e w1 ⟨rfl, rfl⟩
  gi_wp2
  have hsz : (((w.alloc (.cells #[.int .i64 g] 73)).alloc (.cells (madeCells #[.int .i64 0] N) 2)).alloc (.cells #[.slice (some ⟨w.heap.size + 1, 0, none⟩) N N] 76)).heap.size = w.heap.size + 1 + 1 + 1 := by simp
  replace c2 := (c2.alloc (.cells (madeCells #[.int .i64 0] N) 2)).alloc (.cells #[.slice (some ⟨w.heap.size + 1, 0, none⟩) N N] 76)
  have c5 := Boxed.new ((w.alloc (.cells #[.int .i64 g] 73)).alloc (.cells (madeCells #[.int .i64 0] N) 2)) 76 (.slice (some ⟨w.heap.size + 1, 0, none⟩) N N)
  have u0 := UnitsAt.new (w.alloc (.cells #[.int .i64 g] 73)) N
  rw [Nat.mul_one] at u0
  replace u0 := u0.past (single _ (.cells #[.slice (some ⟨w.heap.size + 1, 0, none⟩) N N] 76))
  simp only [World.size_alloc] at c5 u0
  have B3 := three w (.cells #[.int .i64 g] 73) (.cells (madeCells #[.int .i64 0] N) 2) (.cells #[.slice (some ⟨w.heap.size + 1, 0, none⟩) N N] 76)
  clear hmk B0
  generalize ((w.alloc (.cells #[.int .i64 g] 73)).alloc (.cells (madeCells #[.int .i64 0] N) 2)).alloc (.cells #[.slice (some ⟨w.heap.size + 1, 0, none⟩) N N] 76) = W3 at *
  refine ⟨trivial, (callsIn_wide.2 (HD.out _ B3)).mono ?_⟩
  rintro e w1 ⟨rfl, e1⟩
  obtain rfl := e1.symm
  clear e1
  gi_wp2
  refine wpIn_loop (fun a W => ∃ (K : Nat) (Ds : List Nat) (u17 u18 u19 u49 : Value), (K ≤ n ∧ Ds.Nodup ∧ Hid (LeI w g N (gRounds n (pW n c) g K (fun _ => 0)) Ds W.heap.size W ∧ w.heap.size + 1 + 1 + 1 ≤ W.heap.size)) ∧ a = { tmps := #[.int .i64 g, .pointer (some ⟨b, 0, none⟩), .pointer (some ⟨w.heap.size, 0, none⟩), undef, .slice none 0 0, .pointer (some ⟨w.heap.size + 1 + 1, 0, none⟩), undef, undef, undef, undef, .pointer (some ⟨b, 0, none⟩), .int .i64 (n : Int), .int .i64 (N : Int), .slice (some ⟨w.heap.size + 1, 0, none⟩) N N, .pointer (some ⟨b, 0, none⟩), .int .i64 (n : Int), .int .i64 (K : Int), u17, u18, u19, undef, undef, undef, undef, undef, undef, undef, undef, undef, undef, undef, undef, undef, undef, undef, undef, undef, undef, undef, undef, undef, undef, undef, undef, undef, undef, undef, undef, undef, u49, undef], defers := Ds.map markD })
    (fun a _ => n - (intOf (a.tmps.getD 16 undef)).toNat) ⟨0, [], undef, undef, undef, undef, ⟨Nat.zero_le _, List.nodup_nil, ⟨u0, c2, c5, by simp, Nat.le_refl _, B3⟩, by omega⟩, rfl⟩ ?_
  clear c2 c5 u0 B3 hsz
  clear W3
  rintro a wr ⟨K, Ds, u17, u18, u19, u49, ⟨hK, hDs, HL⟩, rfl⟩
  by_cases ck : K < n
  · have ck' : (K : Int) < (n : Int) := by omega
    gi_wp2
    refine ⟨trivial, (limits_in _ b _).mono ?_⟩
    rintro e w' ⟨rfl, rfl⟩
    gi_wp2
    have cz := Boxed.new wr 38 (.pointer (some ⟨b, 0, none⟩))
    have hb1 := single wr (.cells #[.pointer (some ⟨b, 0, none⟩)] 38)
    have L1 := HL.out.1.past hb1
    have hs1 : (wr.alloc (.cells #[.pointer (some ⟨b, 0, none⟩)] 38)).heap.size = wr.heap.size + 1 := by simp
    have hz1 := HZ.out.past L1.2.2.2.2.2
    have hsz := HL.out.2
    clear HL
    generalize wr.alloc (.cells #[.pointer (some ⟨b, 0, none⟩)] 38) = W1 at *
    refine wpIn_rangeFunc_ownH rfl (by omega) (gf := 80) (lb := #[.pointer (some ⟨wr.heap.size, 0, none⟩)]) (by simp [Act.eval, go_sem]) trivial (enters_of Tryz.func80 (by kernel_rfl) rfl)
      (lims_stops 5 (by omega) n m HNN.out HM.out c wr.heap.size b w.heap.size (some (w.heap.size + 1)) W1 cz hz1 (fun x e => by injection e with e; omega)) KeepB.trans (KeepB.put L1.2.2.2.2.2.size) (Below.refl _ _) (fun _ => rfl)
      (fun pre W => LeI w g N (pre.foldl (fun v k => stepK n (pW n c) g v k.val) (gRounds n (pW n c) g K (fun _ => 0))) Ds (wr.heap.size + 1) W) (fun _ _ _ => False) (leI_own w g N (fun pre : List (Fin m) => pre.foldl (fun v k => stepK n (pW n c) g v k.val) (gRounds n (pW n c) g K (fun _ => 0))) Ds _ _ L1.2.2.2.2.2.size (by omega)) (fun cd _ X Y row hs _ _ => hs)
      (L1.up (by omega) (by omega))
      (fun x a' W => ∃ Bx, wr.heap.size < Bx ∧ W.heap[Bx]? = some (.cells #[.int .i64 ((x.val / (n + 1) : Nat) : Int), .int .i64 ((x.val % (n + 1) : Nat) : Int), .int .i32 (c x.val)] 43) ∧ a' = { tmps := #[.int .i64 g, .pointer (some ⟨b, 0, none⟩), .pointer (some ⟨w.heap.size, 0, none⟩), undef, .slice none 0 0, .pointer (some ⟨w.heap.size + 1 + 1, 0, none⟩), .pointer (some ⟨Bx, 0, none⟩), undef, undef, undef, .pointer (some ⟨b, 0, none⟩), .int .i64 (n : Int), .int .i64 (N : Int), .slice (some ⟨w.heap.size + 1, 0, none⟩) N N, .pointer (some ⟨b, 0, none⟩), .int .i64 (n : Int), .int .i64 (K : Int), .bool true, .pointer (some ⟨b, 0, none⟩), .func (.func 80) #[] #[.pointer (some ⟨wr.heap.size, 0, none⟩)], .agg #[.int .i64 ((x.val / (n + 1) : Nat) : Int), .int .i64 ((x.val % (n + 1) : Nat) : Int), .int .i32 (c x.val)], undef, undef, undef, undef, undef, undef, undef, undef, undef, undef, undef, undef, undef, undef, undef, undef, undef, undef, undef, undef, undef, undef, undef, undef, undef, undef, undef, undef, u49, undef], defers := [] })
      (fun x a' _ X Y row hs hg hr => by obtain ⟨Bx, h1, h2, h3⟩ := hs; exact ⟨Bx, h1, objs_own Bx _ _ () X Y row h2 hg (fun r e => (hr r e).2), h3⟩)
      ?assign ?body ?done ?stop
    case assign =>
      rintro l pre x W KK hI hK
      have h5 := hI.2.2.2.2.1
      have h6 := hI.2.2.2.2.2.size
      simp only [limVs, limAt]
      gi_wp2
      exact hK _ _ ((KeepsOthers.alloc _ _).from _) (KeepB.alloc W _ h6) (hI.past (single W _)) ⟨W.heap.size, by omega, World.alloc_heap_new W _, rfl⟩
    case body =>
      rintro l pre x a' W hl - hI ⟨Bx, hBx, bX, rfl⟩ hlt
      have d0 : W.cell? ⟨Bx, 0, none⟩ = some (.int .i64 ((x.val / (n + 1) : Nat) : Int)) := by simp [World.cell?, bX]
      have d1 : W.cell? ⟨Bx, 1, none⟩ = some (.int .i64 ((x.val % (n + 1) : Nat) : Int)) := by simp [World.cell?, bX]
      have d2 : W.cell? ⟨Bx, 2, none⟩ = some (.int .i32 (c x.val)) := by simp [World.cell?, bX]
      have iJ : x.val % (n + 1) < N := by have := HN.out; have := Nat.mod_lt x.val (show 0 < n + 1 by omega); omega
      have iI : x.val / (n + 1) < N := by
        have h1 : x.val < (n + 1) * (n + 1) := by rw [← HM.out]; exact x.isLt
        have := Nat.div_lt_of_lt_mul h1
        have := HN.out
        omega
      have HV := hideR (value_any (c x.val) W)
      have FS : Hid ((pre ++ [x]).foldl (fun v k => stepK n (pW n c) g v k.val) (gRounds n (pW n c) g K (fun _ => 0)) = stepK n (pW n c) g (pre.foldl (fun v k => stepK n (pW n c) g v k.val) (gRounds n (pW n c) g K (fun _ => 0))) x.val) := by
        show _ = _
        rw [List.foldl_append]
        rfl
      have g0 : 1 ≤ g := by have := HG.out; omega
      have g9 : g ≤ 9 := by have := HG.out; have := HNN.out; omega
      have BD : Hid (∀ j, 0 ≤ pre.foldl (fun v k => stepK n (pW n c) g v k.val) (gRounds n (pW n c) g K (fun _ => 0)) j ∧ pre.foldl (fun v k => stepK n (pW n c) g v k.val) (gRounds n (pW n c) g K (fun _ => 0)) j ≤ 100000000000000) := fun j => by
        have h := fold_bd (n := n) hc g0 g9 pre (rounds_bd HM.out hc g0 g9 K) j
        have hm8 : m ≤ 81 := by have := HM.out; rw [this]; exact Nat.mul_le_mul (show n + 1 ≤ 9 by have := HNN.out; omega) (show n + 1 ≤ 9 by have := HNN.out; omega)
        have hK8 : K ≤ 8 := by have := HNN.out; omega
        have e1 : (K : Int) * ((m : Int) * 2415919105) ≤ 8 * (81 * 2415919105) := Int.mul_le_mul (by omega) (by omega) (by omega) (by omega)
        refine ⟨h.1, Int.le_trans h.2 ?_⟩
        omega
      have HI := hideR hI
      clear cz hz1 L1 hb1 hI
      generalize pre.foldl (fun v k => stepK n (pW n c) g v k.val) (gRounds n (pW n c) g K (fun _ => 0)) = v at *
      have hr := hc x.val
      cases f : finB (c x.val) with
      | false =>
        have ei : Hid (stepK n (pW n c) g v x.val = v) := step_none (by simp only [finB, rightB, decide_eq_true_eq, decide_eq_false_iff_not] at f hr; omega)
        rw [f] at HV
        clear f hr
        generalize valV (c x.val) = N1 at *
        generalize valR (c x.val) = r1 at *
        generalize c x.val = bb at *
        gi_wp2
        refine ⟨trivial, (callsIn_wide.2 HV.out).mono ?_⟩
        rintro e w1 ⟨rfl, e1⟩
        obtain rfl := e1.symm
        gi_wp2
        refine ⟨KeepsFrom.refl _ _, KeepB.of (Below.refl _ _) HI.out.2.2.2.2.2.size, ?_⟩
        show LeI w g N (List.foldl _ _ (pre ++ [x])) _ _ _
        rw [FS.out, ei.out]
        exact HI.out
      | true =>
        have ei : Hid (stepK n (pW n c) g v x.val = updV v (x.val % (n + 1)) (max (v (x.val % (n + 1))) (v (x.val / (n + 1)) - gW (c x.val) g))) := step_some f
        have f' : -536870912 ≤ c x.val ∧ c x.val ≤ 536870913 := by simpa only [finB, decide_eq_true_eq] using f
        have gb := gW_bd f'.1 f'.2 g0 g9
        have eg : Hid (valV (c x.val) * g - (if valR (c x.val) then 0 else 1) = gW (c x.val) g) := by
          show _ = _
          unfold gW valV valR
          rw [f]
          simp
        have hp : I64 (valV (c x.val) * g) ∧ I64 (valV (c x.val) * g - 1) := by
          have h1 := eg.out
          split at h1 <;> exact ⟨⟨by omega, by omega⟩, ⟨by omega, by omega⟩⟩
        have HMo : Hid (∀ w, Calls Tryz.prog 74 #[.int .i64 g, .int .i64 (valV (c x.val)), .bool (valR (c x.val))] w fun e w' => e = .returned (.int .i64 (gW (c x.val) g)) ∧ w' = w) := fun w => by
          have h := most_any g (valV (c x.val)) (valR (c x.val)) w hp.1 hp.2
          rw [eg.out] at h
          exact h
        have cI := HI.out.1.cell _ iI
        have cJ := HI.out.1.cell _ iJ
        have fJ := HI.out.1.frozen (x.val % (n + 1))
        have cg := HI.out.2.1.cell
        have c5 := HI.out.2.2.1.cell
        have bI := BD.out (x.val / (n + 1))
        have bJ := BD.out (x.val % (n + 1))
        rw [f] at HV
        clear eg hp f f' hr
        generalize valV (c x.val) = N1 at *
        generalize valR (c x.val) = r1 at *
        generalize gW (c x.val) g = G at *
        generalize c x.val = bb at *
        have hw : wrap64 (v (x.val / (n + 1)) - G) = v (x.val / (n + 1)) - G := (w64 ⟨by omega, by omega⟩).1
        have hw' : IntKind.i64.wrap (v (x.val / (n + 1)) - G) = v (x.val / (n + 1)) - G := (w64 ⟨by omega, by omega⟩).2
        generalize hvI : v (x.val / (n + 1)) = vI at *
        generalize hvJ : v (x.val % (n + 1)) = vJ at *
        have HvJ := hideR hvJ
        have HvI := hideR hvI
        clear hvI hvJ
        generalize hII : x.val / (n + 1) = ii at *
        generalize hJJ : x.val % (n + 1) = jj at *
        have kI : (ii : Int) < (N : Int) := by omega
        have kJ : (jj : Int) < (N : Int) := by omega
        have hNE : Hid (w.heap.size ≤ W.heap.size ∧ w.heap.size + 1 + 1 < wr.heap.size) := ⟨HI.out.2.2.2.2.2.size, by omega⟩
        have FIN : Hid (KeepsFrom W1.heap.size W (W.setCell ⟨w.heap.size + 1, jj, none⟩ (.int .i64 (max vJ (vI - G)))).drew ∧ KeepB w.heap.size (some (w.heap.size + 1)) W (W.setCell ⟨w.heap.size + 1, jj, none⟩ (.int .i64 (max vJ (vI - G)))).drew ∧ LeI w g N ((pre ++ [x]).foldl (fun v k => stepK n (pW n c) g v k.val) (gRounds n (pW n c) g K (fun _ => 0))) Ds (wr.heap.size + 1) (W.setCell ⟨w.heap.size + 1, jj, none⟩ (.int .i64 (max vJ (vI - G)))).drew) := by
          refine ⟨((KeepsOthers.setCell W _ _).trans (KeepsOthers.drew _)).from _, keepB_set (Nat.le_succ _) _, ?_⟩
          rw [FS.out, ei.out]
          exact HI.out.set jj iJ _
        have hH1 : Hid ((W.setCell ⟨w.heap.size + 1, jj, none⟩ (.int .i64 (max vJ (vI - G)))).drew.cell? ⟨w.heap.size + 1 + 1, 0, none⟩ = some (.slice (some ⟨w.heap.size + 1, 0, none⟩) N N) ∧ (W.setCell ⟨w.heap.size + 1, jj, none⟩ (.int .i64 (max vJ (vI - G)))).drew.cell? ⟨Bx, 0, none⟩ = some (.int .i64 (ii : Int)) ∧ (W.setCell ⟨w.heap.size + 1, jj, none⟩ (.int .i64 (max vJ (vI - G)))).drew.cell? ⟨Bx, 1, none⟩ = some (.int .i64 (jj : Int)) ∧ (W.setCell ⟨w.heap.size + 1, jj, none⟩ (.int .i64 (max vJ (vI - G)))).drew.cell? ⟨w.heap.size, 0, none⟩ = some (.int .i64 g)) := by
          have kb := keepB_set (n₀ := 0) (g := w.heap.size + 1) (k := jj) (W := W) (Nat.zero_le _) (.int .i64 (max vJ (vI - G)))
          exact ⟨kb.cell c5 (fun e => by injection e with e; omega), kb.cell d0 (fun e => by injection e with e; omega), kb.cell d1 (fun e => by injection e with e; omega), kb.cell cg (fun e => by injection e with e; omega)⟩
        clear hII hJJ BD bX
        gi_wp2
        refine ⟨trivial, (callsIn_wide.2 HV.out).mono ?_⟩
        rintro e w1 ⟨rfl, e1⟩
        obtain rfl := e1.symm
        clear HV e1
        gi_wp2
        have eJ : W.drew.cell? ⟨w.heap.size + 1, jj, none⟩ = some (.int .i64 vJ) := cJ
        have eI : W.drew.cell? ⟨w.heap.size + 1, ii, none⟩ = some (.int .i64 vI) := cI
        have eF : W.drew.frozen? ⟨w.heap.size + 1, jj, none⟩ = false := fJ
        have hH0 : Hid (W.drew.cell? ⟨w.heap.size + 1 + 1, 0, none⟩ = some (.slice (some ⟨w.heap.size + 1, 0, none⟩) N N) ∧ W.drew.cell? ⟨Bx, 0, none⟩ = some (.int .i64 (ii : Int)) ∧ W.drew.cell? ⟨Bx, 1, none⟩ = some (.int .i64 (jj : Int)) ∧ W.drew.cell? ⟨w.heap.size, 0, none⟩ = some (.int .i64 g)) := ⟨c5, d0, d1, cg⟩
        refine region_round (fun w' => w'.cell? ⟨w.heap.size + 1 + 1, 0, none⟩ = some (.slice (some ⟨w.heap.size + 1, 0, none⟩) N N) ∧ w'.cell? ⟨Bx, 0, none⟩ = some (.int .i64 (ii : Int)) ∧ w'.cell? ⟨Bx, 1, none⟩ = some (.int .i64 (jj : Int)) ∧ w'.cell? ⟨w.heap.size, 0, none⟩ = some (.int .i64 g)) (by kernel_rfl) (by kernel_rfl) (fun h => by obtain ⟨_, _, h⟩ := h; exact h) hH0.out (fun hHeld => ?_)
        refine wpAnyH_take (i := 0) (oi := ⟨_, _, _, _, _, _⟩) (v := ?_) rfl (by kernel_rfl) (by kernel_rfl) (by kernel_rfl) (fun _ _ _ h => h) (Or.inl ⟨by rfl, ?_⟩) (by assumption) ?_
        rotate_left
        · intro w hSw; (try dsimp only at hSw); obtain ⟨hs1, hs2, hs3, hs4⟩ := hSw; first | (go_simp; done) | (go_simp; with_reducible rfl)
        try simp only [Act.put, List.setIfInBounds_toArray, List.set_cons_zero, List.set_cons_succ]
        refine wpAnyH_take (i := 1) (oi := ⟨_, _, _, _, _, _⟩) (v := ?_) rfl (by kernel_rfl) (by kernel_rfl) (by kernel_rfl) (fun _ _ _ h => h) (Or.inl ⟨by rfl, ?_⟩) (by assumption) ?_
        rotate_left
        · intro w hSw; (try dsimp only at hSw); obtain ⟨hs1, hs2, hs3, hs4⟩ := hSw; first | (go_simp; done) | (go_simp; with_reducible rfl)
        try simp only [Act.put, List.setIfInBounds_toArray, List.set_cons_zero, List.set_cons_succ]
        refine wpAnyH_take (i := 2) (oi := ⟨_, _, _, _, _, _⟩) (v := ?_) rfl (by kernel_rfl) (by kernel_rfl) (by kernel_rfl) (fun _ _ _ h => h) (Or.inl ⟨by rfl, ?_⟩) (by assumption) ?_
        rotate_left
        · intro w hSw; (try dsimp only at hSw); obtain ⟨hs1, hs2, hs3, hs4⟩ := hSw; first | (go_simp; done) | (go_simp; with_reducible rfl)
        try simp only [Act.put, List.setIfInBounds_toArray, List.set_cons_zero, List.set_cons_succ]
        refine wpAnyH_take (i := 3) (oi := ⟨_, _, _, _, _, _⟩) (v := ?_) rfl (by kernel_rfl) (by kernel_rfl) (by kernel_rfl) (fun _ _ _ h => h) (Or.inl ⟨by rfl, ?_⟩) (by assumption) ?_
        rotate_left
        · intro w hSw; (try dsimp only at hSw); obtain ⟨hs1, hs2, hs3, hs4⟩ := hSw; first | (go_simp; done) | (go_simp; with_reducible rfl)
        try simp only [Act.put, List.setIfInBounds_toArray, List.set_cons_zero, List.set_cons_succ]
        refine wpAnyH_take (i := 4) (oi := ⟨_, _, _, _, _, _⟩) (v := ?_) rfl (by kernel_rfl) (by kernel_rfl) (by kernel_rfl) (fun _ _ _ h => h) (Or.inl ⟨by rfl, ?_⟩) (by assumption) ?_
        rotate_left
        · intro w hSw; (try dsimp only at hSw); obtain ⟨hs1, hs2, hs3, hs4⟩ := hSw; first | (go_simp; done) | (go_simp; with_reducible rfl)
        try simp only [Act.put, List.setIfInBounds_toArray, List.set_cons_zero, List.set_cons_succ]
        refine wpAnyH_take (i := 5) (oi := ⟨_, _, _, _, _, _⟩) (v := ?_) rfl (by kernel_rfl) (by kernel_rfl) (by kernel_rfl) (fun _ _ _ h => h) (Or.inl ⟨by rfl, ?_⟩) (by assumption) ?_
        rotate_left
        · intro w hSw; (try dsimp only at hSw); obtain ⟨hs1, hs2, hs3, hs4⟩ := hSw; first | (go_simp; done) | (go_simp; with_reducible rfl)
        try simp only [Act.put, List.setIfInBounds_toArray, List.set_cons_zero, List.set_cons_succ]
        refine wpAnyH_take (i := 6) (oi := ⟨_, _, _, _, _, _⟩) (v := ?_) rfl (by kernel_rfl) (by kernel_rfl) (by kernel_rfl) (fun _ _ _ h => h) (Or.inl ⟨by rfl, ?_⟩) (by assumption) ?_
        rotate_left
        · intro w hSw; (try dsimp only at hSw); obtain ⟨hs1, hs2, hs3, hs4⟩ := hSw; first | (go_simp; done) | (go_simp; with_reducible rfl)
        try simp only [Act.put, List.setIfInBounds_toArray, List.set_cons_zero, List.set_cons_succ]
        refine wpAnyH_take (i := 8) (oi := ⟨_, _, _, _, _, _⟩) (v := ?_) rfl (by kernel_rfl) (by kernel_rfl) (by kernel_rfl) (fun _ _ _ h => h) (Or.inl ⟨by rfl, ?_⟩) (by assumption) ?_
        rotate_left
        · intro w hSw; (try dsimp only at hSw); obtain ⟨hs1, hs2, hs3, hs4⟩ := hSw; first | (go_simp; done) | (go_simp; with_reducible rfl)
        try simp only [Act.put, List.setIfInBounds_toArray, List.set_cons_zero, List.set_cons_succ]
        refine wpAnyH_take (i := 9) (oi := ⟨_, _, _, _, _, _⟩) (v := ?_) rfl (by kernel_rfl) (by kernel_rfl) (by kernel_rfl) (fun _ _ _ h => h) (Or.inl ⟨by rfl, ?_⟩) (by assumption) ?_
        rotate_left
        · intro w hSw; (try dsimp only at hSw); obtain ⟨hs1, hs2, hs3, hs4⟩ := hSw; first | (go_simp; done) | (go_simp; with_reducible rfl)
        try simp only [Act.put, List.setIfInBounds_toArray, List.set_cons_zero, List.set_cons_succ]
        refine wpAnyH_take (i := 10) (oi := ⟨_, _, _, _, _, _⟩) (v := ?_) rfl (by kernel_rfl) (by kernel_rfl) (by kernel_rfl) (fun _ _ _ h => h) (Or.inl ⟨by rfl, ?_⟩) (by assumption) ?_
        rotate_left
        · intro w hSw; (try dsimp only at hSw); obtain ⟨hs1, hs2, hs3, hs4⟩ := hSw; first | (go_simp; done) | (go_simp; with_reducible rfl)
        try simp only [Act.put, List.setIfInBounds_toArray, List.set_cons_zero, List.set_cons_succ]
        refine wpAnyH_take (i := 11) (oi := ⟨_, _, _, _, _, _⟩) (v := ?_) rfl (by kernel_rfl) (by kernel_rfl) (by kernel_rfl) (fun _ _ _ h => h) (Or.inl ⟨by rfl, ?_⟩) (by assumption) ?_
        rotate_left
        · intro w hSw; (try dsimp only at hSw); obtain ⟨hs1, hs2, hs3, hs4⟩ := hSw; first | (go_simp; done) | (go_simp; with_reducible rfl)
        try simp only [Act.put, List.setIfInBounds_toArray, List.set_cons_zero, List.set_cons_succ]
        refine wpAnyH_take (i := 13) (oi := ⟨_, _, _, _, _, _⟩) (v := ?_) rfl (by kernel_rfl) (by kernel_rfl) (by kernel_rfl) (fun _ _ _ h => h) (Or.inl ⟨by rfl, ?_⟩) (by assumption) ?_
        rotate_left
        · intro w hSw; (try dsimp only at hSw); obtain ⟨hs1, hs2, hs3, hs4⟩ := hSw; first | (go_simp; done) | (go_simp; with_reducible rfl)
        try simp only [Act.put, List.setIfInBounds_toArray, List.set_cons_zero, List.set_cons_succ]
        refine wpAnyH_take (i := 14) (oi := ⟨_, _, _, _, _, _⟩) (v := ?_) rfl (by kernel_rfl) (by kernel_rfl) (by kernel_rfl) (fun _ _ _ h => h) (Or.inl ⟨by rfl, ?_⟩) (by assumption) ?_
        rotate_left
        · intro w hSw; (try dsimp only at hSw); obtain ⟨hs1, hs2, hs3, hs4⟩ := hSw; first | (go_simp; done) | (go_simp; with_reducible rfl)
        try simp only [Act.put, List.setIfInBounds_toArray, List.set_cons_zero, List.set_cons_succ]
        refine wpAnyH_take (i := 15) (oi := ⟨_, _, _, _, _, _⟩) (v := ?_) rfl (by kernel_rfl) (by kernel_rfl) (by kernel_rfl) (fun _ _ _ h => h) (Or.inl ⟨by rfl, ?_⟩) (by assumption) ?_
        rotate_left
        · intro w hSw; (try dsimp only at hSw); obtain ⟨hs1, hs2, hs3, hs4⟩ := hSw; first | (go_simp; done) | (go_simp; with_reducible rfl)
        try simp only [Act.put, List.setIfInBounds_toArray, List.set_cons_zero, List.set_cons_succ]
        refine wpAnyH_ready (rs := [7, 12, 16]) (by kernel_rfl) (by simp) ?_
        refine AllReadyH.cons (o := ⟨_, _, _, _, _, _⟩) rfl (fun KK hK => ?_) (AllReadyH.cons (o := ⟨_, _, _, _, _, _⟩) rfl (fun KK hK => ?_) (AllReadyH.cons (o := ⟨_, _, _, _, _, _⟩) rfl (fun KK hK => ?_) AllReadyH.nil))
        · go_simp
          refine hK.out _ _ hH0.out (fun hHeld => ?_)
          clear hK KK
          try simp only [Act.put, List.setIfInBounds_toArray, List.set_cons_zero, List.set_cons_succ]
          refine wpAnyH_ready (rs := [12, 16]) (by kernel_rfl) (by simp) ?_
          refine AllReadyH.cons (o := ⟨_, _, _, _, _, _⟩) rfl (fun KK hK => ?_) (AllReadyH.cons (o := ⟨_, _, _, _, _, _⟩) rfl (fun KK hK => ?_) AllReadyH.nil)
          · go_simp
            refine hK.out _ _ hH0.out (fun hHeld => ?_)
            clear hK KK
            try simp only [Act.put, List.setIfInBounds_toArray, List.set_cons_zero, List.set_cons_succ]
            refine wpAnyH_ready (rs := [16]) (by kernel_rfl) (by simp) ?_
            refine AllReadyH.cons (o := ⟨_, _, _, _, _, _⟩) rfl (fun KK hK => ?_) AllReadyH.nil
            · go_simp
              refine (HMo.out _).mono ?_
              rintro e w1 ⟨rfl, rfl⟩
              refine hK.out _ _ hH0.out (fun hHeld => ?_)
              clear hK KK
              try simp only [Act.put, List.setIfInBounds_toArray, List.set_cons_zero, List.set_cons_succ]
              refine wpAnyH_take (i := 17) (oi := ⟨_, _, _, _, _, _⟩) (v := ?_) rfl (by kernel_rfl) (by kernel_rfl) (by kernel_rfl) (fun _ _ _ h => h) (Or.inl ⟨by rfl, ?_⟩) (by assumption) ?_
              rotate_left
              · intro w hSw; (try dsimp only at hSw); obtain ⟨hs1, hs2, hs3, hs4⟩ := hSw; first | (go_simp; done) | (go_simp; with_reducible rfl)
              try simp only [Act.put, List.setIfInBounds_toArray, List.set_cons_zero, List.set_cons_succ]
              refine wpAnyH_take (i := 18) (oi := ⟨_, _, _, _, _, _⟩) (v := ?_) rfl (by kernel_rfl) (by kernel_rfl) (by kernel_rfl) (fun _ _ _ h => h) (Or.inl ⟨by rfl, ?_⟩) (by assumption) ?_
              rotate_left
              · intro w hSw; (try dsimp only at hSw); obtain ⟨hs1, hs2, hs3, hs4⟩ := hSw; first | (go_simp; done) | (go_simp; with_reducible rfl)
              try simp only [Act.put, List.setIfInBounds_toArray, List.set_cons_zero, List.set_cons_succ]
              refine wpAnyH_take (i := 19) (oi := ⟨_, _, _, _, _, _⟩) (v := ?_) rfl (by kernel_rfl) (by kernel_rfl) (by kernel_rfl) (fun _ _ _ h => h) (Or.inl ⟨by rfl, ?_⟩) (by assumption) ?_
              rotate_left
              · intro w hSw; (try dsimp only at hSw); obtain ⟨hs1, hs2, hs3, hs4⟩ := hSw; first | (go_simp; done) | (go_simp; with_reducible rfl)
              try simp only [Act.put, List.setIfInBounds_toArray, List.set_cons_zero, List.set_cons_succ]
              refine wpAnyH_ready (rs := [20]) (by kernel_rfl) (by simp) ?_
              refine AllReadyH.cons (o := ⟨_, _, _, _, _, _⟩) rfl (fun KK hK => ?_) AllReadyH.nil
              go_simp
              refine hK.out _ _ hH1.out (fun hHeld => ?_)
              clear hK KK
              refine wpAnyH_done (by kernel_rfl) ?_ _
              exact FIN.out
          · go_simp
            refine (HMo.out _).mono ?_
            rintro e w1 ⟨rfl, rfl⟩
            refine hK.out _ _ hH0.out (fun hHeld => ?_)
            clear hK KK
            try simp only [Act.put, List.setIfInBounds_toArray, List.set_cons_zero, List.set_cons_succ]
            refine wpAnyH_ready (rs := [12]) (by kernel_rfl) (by simp) ?_
            refine AllReadyH.cons (o := ⟨_, _, _, _, _, _⟩) rfl (fun KK hK => ?_) AllReadyH.nil
            · go_simp
              refine hK.out _ _ hH0.out (fun hHeld => ?_)
              clear hK KK
              try simp only [Act.put, List.setIfInBounds_toArray, List.set_cons_zero, List.set_cons_succ]
              refine wpAnyH_take (i := 17) (oi := ⟨_, _, _, _, _, _⟩) (v := ?_) rfl (by kernel_rfl) (by kernel_rfl) (by kernel_rfl) (fun _ _ _ h => h) (Or.inl ⟨by rfl, ?_⟩) (by assumption) ?_
              rotate_left
              · intro w hSw; (try dsimp only at hSw); obtain ⟨hs1, hs2, hs3, hs4⟩ := hSw; first | (go_simp; done) | (go_simp; with_reducible rfl)
              try simp only [Act.put, List.setIfInBounds_toArray, List.set_cons_zero, List.set_cons_succ]
              refine wpAnyH_take (i := 18) (oi := ⟨_, _, _, _, _, _⟩) (v := ?_) rfl (by kernel_rfl) (by kernel_rfl) (by kernel_rfl) (fun _ _ _ h => h) (Or.inl ⟨by rfl, ?_⟩) (by assumption) ?_
              rotate_left
              · intro w hSw; (try dsimp only at hSw); obtain ⟨hs1, hs2, hs3, hs4⟩ := hSw; first | (go_simp; done) | (go_simp; with_reducible rfl)
              try simp only [Act.put, List.setIfInBounds_toArray, List.set_cons_zero, List.set_cons_succ]
              refine wpAnyH_take (i := 19) (oi := ⟨_, _, _, _, _, _⟩) (v := ?_) rfl (by kernel_rfl) (by kernel_rfl) (by kernel_rfl) (fun _ _ _ h => h) (Or.inl ⟨by rfl, ?_⟩) (by assumption) ?_
              rotate_left
              · intro w hSw; (try dsimp only at hSw); obtain ⟨hs1, hs2, hs3, hs4⟩ := hSw; first | (go_simp; done) | (go_simp; with_reducible rfl)
              try simp only [Act.put, List.setIfInBounds_toArray, List.set_cons_zero, List.set_cons_succ]
              refine wpAnyH_ready (rs := [20]) (by kernel_rfl) (by simp) ?_
              refine AllReadyH.cons (o := ⟨_, _, _, _, _, _⟩) rfl (fun KK hK => ?_) AllReadyH.nil
              go_simp
              refine hK.out _ _ hH1.out (fun hHeld => ?_)
              clear hK KK
              refine wpAnyH_done (by kernel_rfl) ?_ _
              exact FIN.out
        · go_simp
          refine hK.out _ _ hH0.out (fun hHeld => ?_)
          clear hK KK
          try simp only [Act.put, List.setIfInBounds_toArray, List.set_cons_zero, List.set_cons_succ]
          refine wpAnyH_ready (rs := [7, 16]) (by kernel_rfl) (by simp) ?_
          refine AllReadyH.cons (o := ⟨_, _, _, _, _, _⟩) rfl (fun KK hK => ?_) (AllReadyH.cons (o := ⟨_, _, _, _, _, _⟩) rfl (fun KK hK => ?_) AllReadyH.nil)
          · go_simp
            refine hK.out _ _ hH0.out (fun hHeld => ?_)
            clear hK KK
            try simp only [Act.put, List.setIfInBounds_toArray, List.set_cons_zero, List.set_cons_succ]
            refine wpAnyH_ready (rs := [16]) (by kernel_rfl) (by simp) ?_
            refine AllReadyH.cons (o := ⟨_, _, _, _, _, _⟩) rfl (fun KK hK => ?_) AllReadyH.nil
            · go_simp
              refine (HMo.out _).mono ?_
              rintro e w1 ⟨rfl, rfl⟩
              refine hK.out _ _ hH0.out (fun hHeld => ?_)
              clear hK KK
              try simp only [Act.put, List.setIfInBounds_toArray, List.set_cons_zero, List.set_cons_succ]
              refine wpAnyH_take (i := 17) (oi := ⟨_, _, _, _, _, _⟩) (v := ?_) rfl (by kernel_rfl) (by kernel_rfl) (by kernel_rfl) (fun _ _ _ h => h) (Or.inl ⟨by rfl, ?_⟩) (by assumption) ?_
              rotate_left
              · intro w hSw; (try dsimp only at hSw); obtain ⟨hs1, hs2, hs3, hs4⟩ := hSw; first | (go_simp; done) | (go_simp; with_reducible rfl)
              try simp only [Act.put, List.setIfInBounds_toArray, List.set_cons_zero, List.set_cons_succ]
              refine wpAnyH_take (i := 18) (oi := ⟨_, _, _, _, _, _⟩) (v := ?_) rfl (by kernel_rfl) (by kernel_rfl) (by kernel_rfl) (fun _ _ _ h => h) (Or.inl ⟨by rfl, ?_⟩) (by assumption) ?_
              rotate_left
              · intro w hSw; (try dsimp only at hSw); obtain ⟨hs1, hs2, hs3, hs4⟩ := hSw; first | (go_simp; done) | (go_simp; with_reducible rfl)
              try simp only [Act.put, List.setIfInBounds_toArray, List.set_cons_zero, List.set_cons_succ]
              refine wpAnyH_take (i := 19) (oi := ⟨_, _, _, _, _, _⟩) (v := ?_) rfl (by kernel_rfl) (by kernel_rfl) (by kernel_rfl) (fun _ _ _ h => h) (Or.inl ⟨by rfl, ?_⟩) (by assumption) ?_
              rotate_left
              · intro w hSw; (try dsimp only at hSw); obtain ⟨hs1, hs2, hs3, hs4⟩ := hSw; first | (go_simp; done) | (go_simp; with_reducible rfl)
              try simp only [Act.put, List.setIfInBounds_toArray, List.set_cons_zero, List.set_cons_succ]
              refine wpAnyH_ready (rs := [20]) (by kernel_rfl) (by simp) ?_
              refine AllReadyH.cons (o := ⟨_, _, _, _, _, _⟩) rfl (fun KK hK => ?_) AllReadyH.nil
              go_simp
              refine hK.out _ _ hH1.out (fun hHeld => ?_)
              clear hK KK
              refine wpAnyH_done (by kernel_rfl) ?_ _
              exact FIN.out
          · go_simp
            refine (HMo.out _).mono ?_
            rintro e w1 ⟨rfl, rfl⟩
            refine hK.out _ _ hH0.out (fun hHeld => ?_)
            clear hK KK
            try simp only [Act.put, List.setIfInBounds_toArray, List.set_cons_zero, List.set_cons_succ]
            refine wpAnyH_take (i := 17) (oi := ⟨_, _, _, _, _, _⟩) (v := ?_) rfl (by kernel_rfl) (by kernel_rfl) (by kernel_rfl) (fun _ _ _ h => h) (Or.inl ⟨by rfl, ?_⟩) (by assumption) ?_
            rotate_left
            · intro w hSw; (try dsimp only at hSw); obtain ⟨hs1, hs2, hs3, hs4⟩ := hSw; first | (go_simp; done) | (go_simp; with_reducible rfl)
            try simp only [Act.put, List.setIfInBounds_toArray, List.set_cons_zero, List.set_cons_succ]
            refine wpAnyH_ready (rs := [7]) (by kernel_rfl) (by simp) ?_
            refine AllReadyH.cons (o := ⟨_, _, _, _, _, _⟩) rfl (fun KK hK => ?_) AllReadyH.nil
            · go_simp
              refine hK.out _ _ hH0.out (fun hHeld => ?_)
              clear hK KK
              try simp only [Act.put, List.setIfInBounds_toArray, List.set_cons_zero, List.set_cons_succ]
              refine wpAnyH_take (i := 18) (oi := ⟨_, _, _, _, _, _⟩) (v := ?_) rfl (by kernel_rfl) (by kernel_rfl) (by kernel_rfl) (fun _ _ _ h => h) (Or.inl ⟨by rfl, ?_⟩) (by assumption) ?_
              rotate_left
              · intro w hSw; (try dsimp only at hSw); obtain ⟨hs1, hs2, hs3, hs4⟩ := hSw; first | (go_simp; done) | (go_simp; with_reducible rfl)
              try simp only [Act.put, List.setIfInBounds_toArray, List.set_cons_zero, List.set_cons_succ]
              refine wpAnyH_take (i := 19) (oi := ⟨_, _, _, _, _, _⟩) (v := ?_) rfl (by kernel_rfl) (by kernel_rfl) (by kernel_rfl) (fun _ _ _ h => h) (Or.inl ⟨by rfl, ?_⟩) (by assumption) ?_
              rotate_left
              · intro w hSw; (try dsimp only at hSw); obtain ⟨hs1, hs2, hs3, hs4⟩ := hSw; first | (go_simp; done) | (go_simp; with_reducible rfl)
              try simp only [Act.put, List.setIfInBounds_toArray, List.set_cons_zero, List.set_cons_succ]
              refine wpAnyH_ready (rs := [20]) (by kernel_rfl) (by simp) ?_
              refine AllReadyH.cons (o := ⟨_, _, _, _, _, _⟩) rfl (fun KK hK => ?_) AllReadyH.nil
              go_simp
              refine hK.out _ _ hH1.out (fun hHeld => ?_)
              clear hK KK
              refine wpAnyH_done (by kernel_rfl) ?_ _
              exact FIN.out
        · go_simp
          refine (HMo.out _).mono ?_
          rintro e w1 ⟨rfl, rfl⟩
          refine hK.out _ _ hH0.out (fun hHeld => ?_)
          clear hK KK
          try simp only [Act.put, List.setIfInBounds_toArray, List.set_cons_zero, List.set_cons_succ]
          refine wpAnyH_ready (rs := [7, 12]) (by kernel_rfl) (by simp) ?_
          refine AllReadyH.cons (o := ⟨_, _, _, _, _, _⟩) rfl (fun KK hK => ?_) (AllReadyH.cons (o := ⟨_, _, _, _, _, _⟩) rfl (fun KK hK => ?_) AllReadyH.nil)
          · go_simp
            refine hK.out _ _ hH0.out (fun hHeld => ?_)
            clear hK KK
            try simp only [Act.put, List.setIfInBounds_toArray, List.set_cons_zero, List.set_cons_succ]
            refine wpAnyH_ready (rs := [12]) (by kernel_rfl) (by simp) ?_
            refine AllReadyH.cons (o := ⟨_, _, _, _, _, _⟩) rfl (fun KK hK => ?_) AllReadyH.nil
            · go_simp
              refine hK.out _ _ hH0.out (fun hHeld => ?_)
              clear hK KK
              try simp only [Act.put, List.setIfInBounds_toArray, List.set_cons_zero, List.set_cons_succ]
              refine wpAnyH_take (i := 17) (oi := ⟨_, _, _, _, _, _⟩) (v := ?_) rfl (by kernel_rfl) (by kernel_rfl) (by kernel_rfl) (fun _ _ _ h => h) (Or.inl ⟨by rfl, ?_⟩) (by assumption) ?_
              rotate_left
              · intro w hSw; (try dsimp only at hSw); obtain ⟨hs1, hs2, hs3, hs4⟩ := hSw; first | (go_simp; done) | (go_simp; with_reducible rfl)
              try simp only [Act.put, List.setIfInBounds_toArray, List.set_cons_zero, List.set_cons_succ]
              refine wpAnyH_take (i := 18) (oi := ⟨_, _, _, _, _, _⟩) (v := ?_) rfl (by kernel_rfl) (by kernel_rfl) (by kernel_rfl) (fun _ _ _ h => h) (Or.inl ⟨by rfl, ?_⟩) (by assumption) ?_
              rotate_left
              · intro w hSw; (try dsimp only at hSw); obtain ⟨hs1, hs2, hs3, hs4⟩ := hSw; first | (go_simp; done) | (go_simp; with_reducible rfl)
              try simp only [Act.put, List.setIfInBounds_toArray, List.set_cons_zero, List.set_cons_succ]
              refine wpAnyH_take (i := 19) (oi := ⟨_, _, _, _, _, _⟩) (v := ?_) rfl (by kernel_rfl) (by kernel_rfl) (by kernel_rfl) (fun _ _ _ h => h) (Or.inl ⟨by rfl, ?_⟩) (by assumption) ?_
              rotate_left
              · intro w hSw; (try dsimp only at hSw); obtain ⟨hs1, hs2, hs3, hs4⟩ := hSw; first | (go_simp; done) | (go_simp; with_reducible rfl)
              try simp only [Act.put, List.setIfInBounds_toArray, List.set_cons_zero, List.set_cons_succ]
              refine wpAnyH_ready (rs := [20]) (by kernel_rfl) (by simp) ?_
              refine AllReadyH.cons (o := ⟨_, _, _, _, _, _⟩) rfl (fun KK hK => ?_) AllReadyH.nil
              go_simp
              refine hK.out _ _ hH1.out (fun hHeld => ?_)
              clear hK KK
              refine wpAnyH_done (by kernel_rfl) ?_ _
              exact FIN.out
          · go_simp
            refine hK.out _ _ hH0.out (fun hHeld => ?_)
            clear hK KK
            try simp only [Act.put, List.setIfInBounds_toArray, List.set_cons_zero, List.set_cons_succ]
            refine wpAnyH_take (i := 17) (oi := ⟨_, _, _, _, _, _⟩) (v := ?_) rfl (by kernel_rfl) (by kernel_rfl) (by kernel_rfl) (fun _ _ _ h => h) (Or.inl ⟨by rfl, ?_⟩) (by assumption) ?_
            rotate_left
            · intro w hSw; (try dsimp only at hSw); obtain ⟨hs1, hs2, hs3, hs4⟩ := hSw; first | (go_simp; done) | (go_simp; with_reducible rfl)
            try simp only [Act.put, List.setIfInBounds_toArray, List.set_cons_zero, List.set_cons_succ]
            refine wpAnyH_ready (rs := [7]) (by kernel_rfl) (by simp) ?_
            refine AllReadyH.cons (o := ⟨_, _, _, _, _, _⟩) rfl (fun KK hK => ?_) AllReadyH.nil
            · go_simp
              refine hK.out _ _ hH0.out (fun hHeld => ?_)
              clear hK KK
              try simp only [Act.put, List.setIfInBounds_toArray, List.set_cons_zero, List.set_cons_succ]
              refine wpAnyH_take (i := 18) (oi := ⟨_, _, _, _, _, _⟩) (v := ?_) rfl (by kernel_rfl) (by kernel_rfl) (by kernel_rfl) (fun _ _ _ h => h) (Or.inl ⟨by rfl, ?_⟩) (by assumption) ?_
              rotate_left
              · intro w hSw; (try dsimp only at hSw); obtain ⟨hs1, hs2, hs3, hs4⟩ := hSw; first | (go_simp; done) | (go_simp; with_reducible rfl)
              try simp only [Act.put, List.setIfInBounds_toArray, List.set_cons_zero, List.set_cons_succ]
              refine wpAnyH_take (i := 19) (oi := ⟨_, _, _, _, _, _⟩) (v := ?_) rfl (by kernel_rfl) (by kernel_rfl) (by kernel_rfl) (fun _ _ _ h => h) (Or.inl ⟨by rfl, ?_⟩) (by assumption) ?_
              rotate_left
              · intro w hSw; (try dsimp only at hSw); obtain ⟨hs1, hs2, hs3, hs4⟩ := hSw; first | (go_simp; done) | (go_simp; with_reducible rfl)
              try simp only [Act.put, List.setIfInBounds_toArray, List.set_cons_zero, List.set_cons_succ]
              refine wpAnyH_ready (rs := [20]) (by kernel_rfl) (by simp) ?_
              refine AllReadyH.cons (o := ⟨_, _, _, _, _, _⟩) rfl (fun KK hK => ?_) AllReadyH.nil
              go_simp
              refine hK.out _ _ hH1.out (fun hHeld => ?_)
              clear hK KK
              refine wpAnyH_done (by kernel_rfl) ?_ _
              exact FIN.out
    case done =>
      rintro D ys W hD rfl hI hKd
      have hI2 : Hid (LeI w g N (gRounds n (pW n c) g (K + 1) (fun _ => 0)) Ds (wr.heap.size + 1) W) := by
        show LeI w g N (gAll n (pW n c) g (n + 1) (gRounds n (pW n c) g K (fun _ => 0))) Ds (wr.heap.size + 1) W
        have h : LeI w g N ((List.finRange m).foldl (fun v k => stepK n (pW n c) g v k.val) (gRounds n (pW n c) g K (fun _ => 0))) Ds (wr.heap.size + 1) W := hI
        rw [fold_all n m (pW n c) g _ HM.out] at h
        exact h
      have hW := hideR hKd
      have k8 : K ≤ 100 := by have := HNN.out; omega
      clear hI cz hz1 L1 hb1 hKd
      gi_wp2
      refine ⟨⟨K + 1, D :: Ds, _, _, _, _, ⟨by omega, List.nodup_cons.2 ⟨fun h => ?_, hDs⟩, ⟨⟨hI2.out.1, hI2.out.2.1, hI2.out.2.2.1, fun D' hD' => ?_, Nat.le_refl _, hI2.out.2.2.2.2.2⟩, ?_⟩⟩, rfl⟩, ?_⟩
      · have := (hI2.out.2.2.2.1 D h).2.1
        omega
      · rcases List.mem_cons.1 hD' with rfl | h
        · exact ⟨by omega, (Array.getElem?_eq_some_iff.1 hW.out).1, hW.out⟩
        · have h' := hI2.out.2.2.2.1 D' h
          have := hI2.out.2.2.2.2.1
          exact ⟨h'.1, by omega, h'.2.2⟩
      · have := hI2.out.2.2.2.2.1
        omega
      · simp [intOf]
        omega
    case stop =>
      rintro D cd pre W _ _ h _
      exact h.elim
  · have eK : K = n := by omega
    have ck' : ¬ (K : Int) < (n : Int) := by omega
    have c5 := HL.out.1.2.2.1.cell
    have HE : Hid (LeI w g N (gRounds n (pW n c) g n (fun _ => 0)) Ds wr.heap.size wr) := by
      have e := HL.out.1
      rw [eK] at e
      exact e
    clear HL eK
    gi_wp2
    refine leaves_marks w.heap.size Ds wr hDs (fun D hD => ⟨(HE.out.2.2.2.1 D hD).1, (HE.out.2.2.2.1 D hD).2.2⟩) (fun w' hw => ?_)
    refine ⟨.slice (some ⟨w.heap.size + 1, 0, none⟩) N N, by simp [results, Tryz.results41, go_sem], ⟨w.heap.size + 1, rfl, Nat.le_succ _, fun j hj => hw.cell (HE.out.1.cell j (by have := HN.out; omega)) (by simp)⟩, HE.out.2.2.2.2.2.trans hw.below⟩
end Go.Proofs.YteifpplemohdcaaGreatDoor
