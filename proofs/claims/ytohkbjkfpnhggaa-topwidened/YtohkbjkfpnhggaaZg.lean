/-
  The contract of Zone.Equal: the two arrays are read and compared as wholes.
-/
import Derived.Test.YtohkbjkfpnhggaaZd
import Derived.Test.YtohkbjkfpnhggaaZe
namespace Go.Proofs.Ytohkbjkfpnhggaa
open Go.RowKit
set_option linter.unusedVariables false
set_option maxRecDepth 100000
theorem quiet_load {P : Program} {C : World → Prop} {a : Act} {o : Oper} {K : Act → Prop} (t : TypeId) (x : Operand) (h : o.op = .load t x) (p : Addr) (hx : a.eval x = .pointer (some p)) (v : Value) (hl : ∀ w, C w → (Instr.loadAt t (.pointer (some p))).run P w = .ok v w) (hk : K (a.put o.dst v)) : o.quiet P a C K := by
  refine ⟨v, fun w hw => ?_, hk⟩
  unfold Oper.quietAt execOp
  simp only [h, hx, Sem.run_bind, hl w hw, Result.andThen_ok, Sem.run_pure]
  exact ⟨rfl, rfl⟩
theorem quiet_eql {P : Program} {C : World → Prop} {a : Act} {o : Oper} {K : Act → Prop} (t u : TypeId) (x y : Operand) (h : o.op = .binOp .eql t x y u) (p q : Array Value) (hx : a.eval x = .agg p) (hy : a.eval y = .agg q) (hg : P.eqGuardType P.depth t = false) (v : Value) (hl : ∀ w, C w → (binOp .eql t (.agg p) (.agg q)).run P w = .ok v w) (hk : K (a.put o.dst v)) : o.quiet P a C K := by
  refine ⟨v, fun w hw => ?_, hk⟩
  have g : (eqGuard BinOp.eql t x y (.agg p) (.agg q)).run P w = .ok () w := by
    simp [eqGuard, Sem.run_bind, hg]
  unfold Oper.quietAt execOp
  simp only [h, hx, hy, Sem.run_bind, Sem.run_pure, g, Result.andThen_ok, hl w hw]
  exact ⟨rfl, rfl⟩
end Go.Proofs.Ytohkbjkfpnhggaa

/-
  Includes of an empty zone.
-/
namespace Go.Proofs.Ytohkbjkfpnhggaa
open Go.RowKit
set_option linter.unusedVariables false
set_option maxRecDepth 100000
set_option maxHeartbeats 4000000 in
theorem includes_empty (b o n : Nat) (c d : Row) (w : World) (hz : ZoneAt w b n c) (hy : ZoneAt w o n d) (hn : n ≤ 8) (hd : decide (d 0 < 1) = true) :
    Calls Try.prog 11 #[.pointer (some ⟨b, 0, none⟩), .pointer (some ⟨o, 0, none⟩)] w fun e w' => e = .returned (.bool true) ∧ Below w.heap.size w w' := by
  have HA := hideD (alike_same b o n c d w hz hy)
  have HH : Hid (∀ w', Below w.heap.size w w' → Calls Try.prog 23 #[.pointer (some ⟨o, 0, none⟩)] w' fun e w'' => e = .returned (.bool (decide (d 0 < 1))) ∧ Below w'.heap.size w' w'') := fun w' hb => hollow_any o n d w' hn (hy.past hb)
  clear hz hy
  rw [hd] at HH
  clear hd
  go_enter Try.func11, Try.ntmps11
  go_wp2_with fail
  refine HA.out.mono ?_
  rintro e w1 ⟨rfl, k, rfl⟩
  have B1 := hideD (below_draw w k)
  generalize w.drewN k = W at *
  go_wp2_with fail
  have B2 := B1.out
  first
  | go_region_with
    (go_at_call 23; refine (HH.out _ (by first | with_reducible assumption | with_reducible exact Below.drew (by with_reducible assumption))).mono ?_; rintro e w' ⟨rfl, hb⟩; have h3 := beyondD (w := w) (by first | with_reducible assumption | with_reducible exact Below.drew (by with_reducible assumption)) hb; clear hb)
  | fail
  all_goals go_wp2_with fail
  all_goals go_ret
  all_goals exact ⟨by first | rfl | simp, by assumption⟩
end Go.Proofs.Ytohkbjkfpnhggaa

/-
  A draft of ops in memory, and the contracts of side, Dim, draftOf.
-/
namespace Go.Proofs.Ytohkbjkfpnhggaa
open Go.RowKit
set_option linter.unusedVariables false
set_option maxRecDepth 100000
/-- In block b there lies a draft of ops of n clocks with these rows. -/
structure ODraft (w : World) (b n : Nat) (r : Mat) : Prop where
  clocks : w.cell? ⟨b, 0, none⟩ = some (.int .i64 n)
  cell : ∀ i j, i ≤ 8 → j ≤ 8 → w.cell? (at9 b i j) = some (.int .i32 (r i j))
  free : ∀ i j, i ≤ 8 → j ≤ 8 → w.frozen? (at9 b i j) = false
theorem ODraft.set {w : World} {b n : Nat} {r : Mat} (h : ODraft w b n r) {i j : Nat} (hi : i ≤ 8) (hj : j ≤ 8) (v : Int) : ODraft (w.setCell (at9 b i j) (.int .i32 v)) b n (upd r i j v) := by
  refine ⟨?_, ?_, ?_⟩
  · rw [World.cell?_setCell_other _ _ _ _ (by intro e; injection e; omega)]
    exact h.clocks
  · intro a c ha hc
    by_cases e : a = i ∧ c = j
    · obtain ⟨rfl, rfl⟩ := e
      rw [World.cell?_setCell_same _ _ _ (h.cell a c ha hc)]
      simp [upd]
    · rw [World.cell?_setCell_other _ _ _ _ (by intro e; injection e; omega), h.cell a c ha hc]
      simp [upd, e]
  · intro a c ha hc
    rw [World.frozen?_setCell]
    exact h.free a c ha hc
theorem ODraft.drewN {w : World} {b n : Nat} {r : Mat} (h : ODraft w b n r) (k : Nat) : ODraft (w.drewN k) b n r := ⟨h.clocks, h.cell, h.free⟩
theorem ODraft.drew {w : World} {b n : Nat} {r : Mat} (h : ODraft w b n r) : ODraft w.drew b n r := ⟨h.clocks, h.cell, h.free⟩
theorem ODraft.lt {w : World} {b n : Nat} {r : Mat} (h : ODraft w b n r) : b < w.heap.size := World.block_lt_of_cell? _ _ h.clocks
theorem ODraft.later {w w' : World} {b n : Nat} {r : Mat} (h : ODraft w b n r) {B : Nat} (hb : Below B w w') (hB : b < B) : ODraft w' b n r :=
  ⟨(hb.cell hB).trans h.clocks, fun i j hi hj => (hb.cell (p := at9 b i j) hB).trans (h.cell i j hi hj), fun i j hi hj => (hb.frozen (p := at9 b i j) hB).trans (h.free i j hi hj)⟩
theorem ODraft.past {w w' : World} {b n : Nat} {r : Mat} (h : ODraft w b n r) (hb : Below w.heap.size w w') : ODraft w' b n r := h.later hb h.lt
theorem ODraft.ext {w : World} {b n : Nat} {r s : Mat} (h : ODraft w b n r) (e : ∀ i j, i ≤ 8 → j ≤ 8 → r i j = s i j) : ODraft w b n s :=
  ⟨h.clocks, fun i j hi hj => by rw [h.cell i j hi hj, e i j hi hj], h.free⟩
theorem zeroO (w : World) : Sem.run Try.prog (zeroValue 80) w = .ok (.agg y82) w := by kernel_rfl
theorem new_odraft (w : World) (n : Nat) (T : TypeId) : ODraft (w.alloc (.cells (y82.setIfInBounds 0 (.int .i64 n)) T)) w.heap.size n (fun _ _ => 0) := by
  refine ⟨?_, ?_, ?_⟩
  · simp [go_sem, y82]
  · intro i j hi hj
    rw [World.cell?_alloc_at _ _ _ _ rfl, Array.getElem?_setIfInBounds_ne (by omega)]
    rw [y82, Array.getElem?_append_right (by simp; omega), Array.getElem?_replicate, if_pos (by simp; omega)]
  · intro i j hi hj
    simp [go_sem]
theorem oside_any (n : Nat) (w : World) (h : n ≤ 8) :
    Calls Try.prog 51 #[.agg #[.int .i64 n]] w fun e w' => e = .returned (.int .i64 ((n + 1 : Nat) : Int)) ∧ Below w.heap.size w w' := by
  go_enter Try.func51, Try.ntmps51
  go_wp2
  go_ret
  exact ⟨rI (by first | omega | (unfold wrap64; omega)), below_one _ _⟩
theorem dimZ_any (b : Nat) (n : Int) (w : World) (h : w.cell? ⟨b, 0, none⟩ = some (.int .i64 n)) :
    Calls Try.prog 18 #[.pointer (some ⟨b, 0, none⟩)] w fun e w' => e = .returned (.int .i64 n) ∧ w' = w := by
  go_enter Try.func18, Try.ntmps18
  go_wp2
  go_ret
  exact ⟨rfl, rfl⟩
/-- The rows of a zone's cells, the first K of them laid. -/
def oR (n : Nat) (c : Row) (K : Nat) : Mat := fun i j => if j ≤ n ∧ i * (n + 1) + j < K then c (i * (n + 1) + j) else 0
theorem oR_next (n : Nat) (c : Row) (K : Nat) : upd (oR n c K) (K / (n + 1)) (K % (n + 1)) (c K) = oR n c (K + 1) := by
  funext i j
  have d2 : K % (n + 1) ≤ n := by have := Nat.mod_lt K (show 0 < n + 1 by omega); omega
  have d3 : K / (n + 1) * (n + 1) + K % (n + 1) = K := by rw [Nat.mul_comm]; exact Nat.div_add_mod K (n + 1)
  unfold upd oR
  by_cases e : i = K / (n + 1) ∧ j = K % (n + 1)
  · obtain ⟨rfl, rfl⟩ := e
    rw [if_pos ⟨rfl, rfl⟩, d3, if_pos ⟨d2, by omega⟩]
  · rw [if_neg e]
    by_cases hj : j ≤ n
    · have ne : ¬ i * (n + 1) + j = K := by
        intro q
        have h1 : (i * (n + 1) + j) / (n + 1) = i := by rw [Nat.mul_comm, Nat.mul_add_div (by omega), Nat.div_eq_of_lt (by omega)]; rfl
        have h2 : (i * (n + 1) + j) % (n + 1) = j := by rw [Nat.mul_comm, Nat.mul_add_mod, Nat.mod_eq_of_lt (by omega)]
        rw [q] at h1 h2
        exact e ⟨h1.symm, h2.symm⟩
      congr 1
      apply propext
      constructor
      · rintro ⟨a, b⟩; exact ⟨a, by omega⟩
      · rintro ⟨a, b⟩; exact ⟨a, by omega⟩
    · rw [if_neg (by omega), if_neg (by omega)]
set_option maxHeartbeats 2000000 in
theorem odraft_any (b n : Nat) (c : Row) (w : World) (h : n ≤ 8) (hz : ZoneAt w b n c) :
    Calls Try.prog 27 #[.pointer (some ⟨b, 0, none⟩)] w fun e w' => (∃ d, e = .returned (.pointer (some ⟨d, 0, none⟩)) ∧ w.heap.size ≤ d ∧ ODraft w' d n (oR n c ((n + 1) * (n + 1)))) ∧ Below w.heap.size w w' := by
  have HD := hideD (dimZ_any b n w hz.clocks)
  have HC := hideD (cells_any b n c (w.alloc (.cells (y82.setIfInBounds 0 (.int .i64 n)) 80)) (hz.past (below_one _ _)) h)
  have Z := fun w => zeroO w
  have Zn := y82_ne
  have D0 := hideD (new_odraft w n 80)
  have B0 := hideD (below_one w (.cells (y82.setIfInBounds 0 (.int .i64 n)) 80))
  have HS : Hid (∀ w, Calls Try.prog 51 #[.agg #[.int .i64 n]] w fun e w' => e = .returned (.int .i64 ((n + 1 : Nat) : Int)) ∧ Below w.heap.size w w') := fun w => oside_any n w h
  clear hz
  go_enter Try.func27, Try.ntmps27
  go_wp2_with fail
  refine HD.out.mono ?_
  rintro e w' ⟨rfl, rfl⟩
  go_wp2_with fail
  refine HC.out.mono ?_
  rintro e w1 ⟨⟨v, rfl, g, cap, rfl, hg, hgl, hr⟩, hb⟩
  have hD1 := hideD (D0.out.later hb D0.out.lt)
  have hB1 := hideD (beyondD B0.out hb)
  have hG : Hid (g < w1.heap.size ∧ ∀ k, k < (n + 1) * (n + 1) → w1.cell? ⟨g, k, none⟩ = some (.int .i32 (c k))) := ⟨hgl, fun k hk => by
    have := hr k (by rw [listOf_len]; exact hk)
    rw [listOf_get c _ k hk] at this
    simpa using this⟩
  have hgd : Hid (w'.heap.size < g) := by have := B0.out.size; simp at hg; exact hg
  clear hr hb HC HD D0 B0 Z Zn hg hgl
  rw [listOf_len]
  have hm81 : (n + 1) * (n + 1) ≤ 81 := Nat.mul_le_mul (show n + 1 ≤ 9 by omega) (show n + 1 ≤ 9 by omega)
  have e0 : (fun _ _ => (0 : Int)) = oR n c 0 := by funext a b; simp [oR]
  rw [e0] at hD1
  clear e0
  have HQ : Hid (∀ k, k < (n + 1) * (n + 1) → k / (n + 1) ≤ n ∧ k % (n + 1) ≤ n) := fun k hk => ⟨by have := Nat.div_lt_of_lt_mul hk; omega, by have := Nat.mod_lt k (show 0 < n + 1 by omega); omega⟩
  have HT : Hid (∀ k : Nat, k < (n + 1) * (n + 1) → IntKind.i64.wrap ((k : Int) / ((n + 1 : Nat) : Int)) = ((k / (n + 1) : Nat) : Int) ∧ (k : Int) % ((n + 1 : Nat) : Int) = ((k % (n + 1) : Nat) : Int)) := fun k hk => by
    constructor
    · rw [← Int.natCast_ediv]
      have := Nat.div_le_self k (n + 1)
      generalize k / (n + 1) = z at *
      rw [IntKind.wrap_i64]
      omega
    · rw [← Int.natCast_emod]
  have HP : Hid (∀ wr, ODraft wr w'.heap.size n (oR n c ((n + 1) * (n + 1))) → Below w'.heap.size w' wr → (∃ d, Ending.returned (.pointer (some ⟨w'.heap.size, 0, none⟩)) = Ending.returned (.pointer (some ⟨d, 0, none⟩)) ∧ w'.heap.size ≤ d ∧ ODraft wr d n (oR n c ((n + 1) * (n + 1)))) ∧ Below w'.heap.size w' wr) := fun wr h1 h2 => ⟨⟨_, rfl, Nat.le_refl _, h1⟩, h2⟩
  have s0 : ¬ ((n + 1 : Nat) : Int) = 0 := by omega
  generalize hm : (n + 1) * (n + 1) = m at *
  have HM := hideD hm
  clear hm
  have m1 : (m : Int) ≤ 81 := by omega
  go_wp2_with fail
  go_loopw [14] (fun s wr => ∃ (K : Nat), K ≤ m ∧ s = .int .i64 K ∧ Hid (ODraft wr w'.heap.size n (oR n c K)) ∧ Hid (Below w'.heap.size w' wr) ∧ Hid (wr.heap.size ≥ w1.heap.size ∧ ∀ k, k < m → wr.cell? ⟨g, k, none⟩ = some (.int .i32 (c k)))) (fun s _ => m - (intOf s).toNat)
  case atStart => exact ⟨0, by omega, rfl, hD1, hB1, Nat.le_refl _, hG.out.2⟩
  case round =>
    obtain ⟨K, hK, rfl, hD, hB, hC⟩ := hrel
    clear hD1 hB1
    by_cases ck : K < m
    · have hrow := hC.out.2 K ck
      obtain ⟨i1, j1⟩ := HQ.out K ck
      obtain ⟨t1, t2⟩ := HT.out K ck
      have nx := hideD (oR_next n c K)
      generalize K / (n + 1) = i at *
      generalize K % (n + 1) = j at *
      generalize c K = x at *
      generalize ((n + 1 : Nat) : Int) = s at *
      have k0 : (0 : Int) ≤ (K : Int) := by omega
      have k1 : (K : Int) < (m : Int) := by omega
      go_upto_region 5 with (fail)
      have q0 := hD.out.clocks
      have q1 := hD.out.cell i j (by omega) (by omega)
      have q2 := hD.out.free i j (by omega) (by omega)
      have B2 := Below.refl wr.heap.size wr
      have i8 : i ≤ 8 := by omega
      have t5 : (K : Int).tmod s = (j : Int) := by rw [Int.tmod_eq_emod_of_nonneg (by omega)]; exact t2
      have j8 : j ≤ 8 := by omega
      have i9 : i < 9 := by omega
      have j9 : j < 9 := by omega
      have a0 : (0 : Int) ≤ (i : Int) := by omega
      have a1 : (i : Int) < 9 := by omega
      have a2 : (0 : Int) ≤ (j : Int) := by omega
      have a3 : (j : Int) < 9 := by omega
      go_region_held3 (fun w2 => w2.cell? ⟨w'.heap.size, 0, none⟩ = some (.int .i64 n))
        (first | with_reducible assumption | (rw [World.cell?_setCell_other _ _ _ _ (by intro e; injection e; omega)]; with_reducible assumption) | go_keep)
        (first | (go_at_call 51; refine (HS.out _).mono ?_; rintro e' w2 ⟨rfl, hb⟩; have s0 := kc ⟨w'.heap.size, 0, none⟩ (.int .i64 n) hb (by first | assumption | simp [go_sem, *]); have s1 := beyondD (w := wr) (by first | assumption | (apply Below.drew; assumption)) hb; have s2 := kc (at9 w'.heap.size i j) _ hb (by first | assumption | simp [go_sem, *]); have s3 := kf (at9 w'.heap.size i j) _ hb (by first | assumption | simp [go_sem, *]) (by first | assumption | simp [go_sem, *])))
      all_goals
        have hD2 := hideD ((hD.out.past s1).set i8 j8 x)
        rw [nx.out] at hD2
        have hB2 := hideD ((beyondD hB.out s1).setCell (p := at9 w'.heap.size i j) (Nat.le_refl _) (.int .i32 x))
        have hC2 : Hid ((w2.setCell (at9 w'.heap.size i j) (.int .i32 x)).heap.size ≥ w1.heap.size ∧ ∀ k, k < m → (w2.setCell (at9 w'.heap.size i j) (.int .i32 x)).cell? ⟨g, k, none⟩ = some (.int .i32 (c k))) := ⟨by
          have := s1.size
          have := hC.out.1
          rw [World.size_setCell]
          omega, fun k hk => by
          rw [World.cell?_setCell_other _ _ _ _ (by have := hgd.out; intro e; injection e; omega)]
          exact (s1.cell (p := ⟨g, k, none⟩) (by have := hC.out.1; have := hG.out.1; show g < _; omega)).trans (hC.out.2 k hk)⟩
        clear hD hB hC s0 s1 s2 s3 hb hrow q0 q1 q2
        go_wp2_with fail
        go_roundw
        case rel => exact ⟨K + 1, by omega, by go_num, hD2, hB2, hC2⟩
        case measure => simp [intOf]; omega
    · have e : K = m := by omega
      subst e
      go_wp2_with fail
      exact bodyPost_ret (v := .pointer (some ⟨w'.heap.size, 0, none⟩)) (by simp [results, Try.results27, go_sem]) rfl (by rw [HM.out]; exact HP.out _ hD.out hB.out)
end Go.Proofs.Ytohkbjkfpnhggaa

/-
  The contract of zone of ops: what becomes of a draft.
-/
namespace Go.Proofs.Ytohkbjkfpnhggaa
open Go.RowKit
set_option linter.unusedVariables false
set_option maxRecDepth 100000
theorem own_past {w w' : World} {base : Nat} {e : TypeId} {size n : Nat} {v : Value} {xs : List Value} (h : w.ownsRow base e size v n xs) (hb : Below w.heap.size w w') : w'.ownsRow base e size v n xs := by
  refine ⟨h.1, ?_⟩
  rcases h.2 with ⟨rfl, h0⟩ | ⟨g, cap, cur, rfl, h1, h2, h3⟩
  · exact .inl ⟨rfl, h0⟩
  · refine .inr ⟨g, cap, cur, rfl, h1, (hb.block g ?_).trans h2, h3⟩
    rcases Nat.lt_or_ge g w.heap.size with h' | h'
    · exact h'
    · simp [Array.getElem?_eq_none h'] at h2
/-- The first rows of a matrix, one behind the other. -/
def rowsL (n : Nat) (r : Mat) (I : Nat) : List Int := listOf (flat n r) (I * (n + 1))
theorem rowsL_next (n : Nat) (r : Mat) (I : Nat) : rowsL n r (I + 1) = rowsL n r I ++ (List.range (n + 1)).map (r I) := by
  unfold rowsL listOf
  rw [Nat.succ_mul, List.range_add, List.map_append]
  congr 1
  rw [List.map_map]
  apply List.map_congr_left
  intro j hj
  have hj : j < n + 1 := by simpa using hj
  show flat n r (I * (n + 1) + j) = r I j
  unfold flat
  rw [Nat.mul_comm, Nat.mul_add_div (by omega), Nat.div_eq_of_lt hj, Nat.mul_add_mod, Nat.mod_eq_of_lt hj]
  rfl
set_option maxHeartbeats 4000000 in
theorem ozone_any (b n : Nat) (r : Mat) (w : World) (h : n ≤ 8) (hD : ODraft w b n r) (hi : ∀ i j, -2147483648 ≤ r i j ∧ r i j ≤ 2147483647) :
    Calls Try.prog 28 #[.pointer (some ⟨b, 0, none⟩)] w fun e w' => Below w.heap.size w w' ∧
      ((allRight (rowsL n r (n + 1)) ((n + 1) * (n + 1)) = false ∧ e = errOf 7) ∨ (allRight (rowsL n r (n + 1)) ((n + 1) * (n + 1)) = true ∧ ZoneOut w' w.heap.size n e (zoneR n (tgAll n (rowsL n r (n + 1)) ((n + 1) * (n + 1)) (startR n (n + 1) 0))))) := by
  have HS : Hid (∀ w, Calls Try.prog 51 #[.agg #[.int .i64 n]] w fun e w' => e = .returned (.int .i64 ((n + 1 : Nat) : Int)) ∧ Below w.heap.size w w') := fun w => oside_any n w h
  have hm81 : (n + 1) * (n + 1) ≤ 81 := Nat.mul_le_mul (show n + 1 ≤ 9 by omega) (show n + 1 ≤ 9 by omega)
  obtain ⟨i0, hi0, hz0, hz1, hz2⟩ := info_parts info_bd
  have e1 : IntKind.i64.wrap (((n + 1 : Nat) : Int) * ((n + 1 : Nat) : Int)) = (((n + 1) * (n + 1) : Nat) : Int) := by
    rw [← Int.natCast_mul]
    generalize (n + 1) * (n + 1) = z at *
    rw [IntKind.wrap_i64]
    omega
  have HD := hideD hD
  have hcl := hD.clocks
  have hbl := hD.lt
  generalize hm : (n + 1) * (n + 1) = m at *
  have HM := hideD hm
  clear hm
  obtain ⟨q, hq⟩ : ∃ q : Nat, q = n + 1 := ⟨_, rfl⟩
  rw [← hq] at HS e1
  have HQ := hideD hq
  have q9 : q ≤ 9 := by omega
  have q1 : 1 ≤ q := by omega
  have AL : Try.prog.arrayLen 77 = 9 := by kernel_rfl
  have q2 : (0 : Int) ≤ (q : Int) := by omega
  have q3 : (q : Int) ≤ 9 := by omega
  clear hq
  have MK : ∀ w, Sem.run Try.prog (Instr.makeSlice 85 (.int .i64 0) (.int .i64 (m : Int))) w = .ok (.slice (some ⟨w.heap.size, 0, none⟩) 0 m) (w.alloc (.cells (madeCells #[.int .i32 0] m) 41)) := fun w => by
    have := run_make (P := Try.prog) w 85 41 i0 (.int .i32 0) Try.underlying85 hi0 hz0 .i64 .i64 0 (m : Int) (Int.le_refl _) (by omega) (by rw [hz2]; omega) (by omega)
    rw [hz1] at this
    simpa [Value.cells] using this
  have mcs := hideD (size_madeCells #[.int .i32 0] m)
  generalize madeCells #[.int .i32 0] m = MC at *
  go_enter Try.func28, Try.ntmps28
  go_upto_region 1 with (fail)
  have B1 := Below.refl w.heap.size w
  go_region_held3 (fun w2 => w2.cell? ⟨b, 0, none⟩ = some (.int .i64 n))
    (first | with_reducible assumption | go_keep)
    (first
     | (go_at_call 51; refine (HS.out _).mono ?_; rintro e' w2 ⟨rfl, hb⟩; have s0 := kc ⟨b, 0, none⟩ (.int .i64 n) hb (by first | assumption | simp [go_sem, *]); have s1 := beyondD (w := w) (by first | assumption | (apply Below.drew; assumption)) hb; clear hb))
  all_goals
    have own0 := hideD (World.ownsRow_made (base := w.heap.size) (e := 41) (size := 1) w2 MC m s1.size (by unfold maxLen; omega) (by have := mcs.out; omega))
    have hB2 := hideD (s1.alloc s1.size (.cells MC 41))
    have hD2 := hideD (HD.out.past hB2.out)
    have hc2 := hD2.out.clocks
    generalize w2.heap.size = g0 at *
    generalize w2.alloc (.cells MC 41) = w3 at *
    clear s0 s1 B1 MK mcs hD
    have HD0 := HD
    clear HD
    go_wp2_with fail
    refine (HS.out _).mono ?_
    rintro e w4 ⟨rfl, hb⟩
    have own4 := hideD (own_past own0.out hb)
    have hD4 := hideD (hD2.out.past hb)
    have hB4 := hideD (beyondD hB2.out hb)
    clear hb own0 hD2 hB2 hc2
    go_wp2_with fail
    go_loopw [4, 23] (fun v s wr => ∃ (u : Value) (I : Nat), I ≤ q ∧ v = u ∧ s = .int .i64 I ∧ Hid (wr.ownsRow w.heap.size 41 1 u (I * q) ((rowsL n r I).map (Value.int .i32))) ∧ Hid (ODraft wr b n r) ∧ Hid (Below w.heap.size w wr)) (fun _ s _ => q - (intOf s).toNat)
    case atStart => exact ⟨_, 0, by omega, rfl, rfl, by show World.ownsRow _ _ _ _ _ _ _; rw [Nat.zero_mul]; simpa [rowsL, listOf] using own4.out, hD4, hB4⟩
    case round =>
      obtain ⟨u, I, hI, hv, rfl, hO, hD, hB⟩ := hrel
      replace hv := hv.symm
      subst hv
      clear own4 hD4 hB4
      by_cases cI : I < q
      · have i0' : (0 : Int) ≤ (I : Int) := by omega
        have i9' : (I : Int) < 9 := by omega
        have i9n : I < 9 := by omega
        have hcz := hD.out.clocks
        have HN : Hid (∀ W, Below wr.heap.size wr W → ∀ j x, (((List.range q).map (r I)).map (Value.int .i32))[j]? = some x → W.cell? ((⟨b, 1 + I * 9, none⟩ : Addr).add j) = some x) := by
          intro W hb j x hx
          rw [Addr.add_lit]
          by_cases hj : j < q
          · have := (hD.out.past hb).cell I j (by omega) (by omega)
            simp [hj] at hx
            rw [← hx]
            exact this
          · rw [List.getElem?_eq_none (by simp; omega)] at hx
            cases hx
        have B2 := Below.refl wr.heap.size wr
        have IQ : I * q + q ≤ 81 := by
          have : (I + 1) * q ≤ 9 * 9 := Nat.mul_le_mul (by omega) (by omega)
          rw [Nat.succ_mul] at this
          exact this
        have NX := hideD (rowsL_next n r I)
        have IQ' := hideD IQ
        clear IQ
        go_upto_region 5 with (fail)
        go_region_held3 (fun w2 => w2.cell? ⟨b, 0, none⟩ = some (.int .i64 n)) (first | with_reducible assumption | go_keep) (first
          | (go_at_call 51; refine (HS.out _).mono ?_; rintro e' w5 ⟨rfl, hb⟩; have s0 := kc ⟨b, 0, none⟩ (.int .i64 n) hb (by first | assumption | simp [go_sem, *]); have s1 := beyondD (w := wr) (by first | assumption | (apply Below.drew; assumption)) hb; clear hb)
          | (refine step_own rfl (.tmp 26) (.tmp 37) 85 rfl w.heap.size 41 i0 (.int .i32 0) 1 4 Try.underlying85 hi0 hz0 hz1 hz2 rfl (by decide) u (I * q) ((rowsL n r I).map (Value.int .i32)) (by simp [Act.eval]) (own_past hO.out s1) ⟨b, 1 + I * 9, none⟩ q 9 (((List.range q).map (r I)).map (Value.int .i32)) (by simp [Act.eval]) (by simp) (HN.out _ s1) (fun u hu => by simp at hu; obtain ⟨a, _, rfl⟩ := hu; rfl) (by have := IQ'.out; unfold maxLen; omega) (by have := IQ'.out; omega) (by have := s1.size; have := hB.out.size; omega) ?_; intro v' w6 hown' hgrow; have s4 := hideD hown'; have s7 := (beyondD hB.out s1).grown hgrow (by have := s1.size; have := hB.out.size; omega) (fun k hk => ((own_past hO.out s1).lt k hk).1); have s8 : w6.cell? ⟨b, 0, none⟩ = some (.int .i64 n) := (s7.cell hbl).trans hcl; clear hown' hgrow))
        all_goals
          have hD6 := hideD (HD0.out.past s7)
          have hB6 := hideD s7
          have hO6 : Hid (w6.ownsRow w.heap.size 41 1 v' ((I + 1) * q) ((rowsL n r (I + 1)).map (Value.int .i32))) := by
            show World.ownsRow _ _ _ _ _ _ _
            rw [NX.out, ← HQ.out, List.map_append, Nat.succ_mul]
            exact s4.out
          clear s0 s1 s4 s7 s8 hO hD hB HN NX B2 hcz
          go_wp2_with fail
          go_roundw
          case rel => exact ⟨v', I + 1, by omega, rfl, by go_num, hO6, hD6, hB6⟩
          case measure => simp [intOf]; omega
      · have eI : I = q := by omega
        subst eI
        have hcz := hD.out.clocks
        have hlen : Hid ((rowsL n r I).length = m) := by show _ = _; rw [rowsL, listOf_len, ← HM.out, HQ.out]
        have hform : ∃ g cap, u = .slice (some ⟨g, 0, none⟩) m cap ∧ RowAt wr g 0 (rowsL n r I) := by
          have e0 : I * I = m := by rw [← HM.out, HQ.out]
          have hO' := hO.out
          rw [e0] at hO'
          rcases hO'.2 with ⟨-, h0⟩ | ⟨g, cap, cur, rfl, h1⟩
          · have : 0 < I * I := Nat.mul_pos q1 q1
            omega
          · refine ⟨g, cap, rfl, fun j hj => ?_⟩
            have hc := World.ownsRow.cells hO' (g := g) rfl j (.int .i32 ((rowsL n r I).getD j 0)) (by simp [List.getD, hj])
            rw [Addr.add_lit] at hc
            exact hc
        obtain ⟨g, cap, rfl, hrow⟩ := hform
        have HO : Hid (Calls Try.prog 52 #[.int .i64 n, .slice (some ⟨g, 0, none⟩) m cap] wr fun e w' => Below wr.heap.size wr w' ∧
            ((allRight (rowsL n r I) m = false ∧ e = errOf 7) ∨ (allRight (rowsL n r I) m = true ∧ ZoneOut w' wr.heap.size n e (zoneR n (tgAll n (rowsL n r I) m (startR n (n + 1) 0)))))) := by
          have := of_main n g 0 cap (rowsL n r I) wr h (by rw [hlen.out, HM.out]) hrow (fun j hj => by
            rw [rowsL, listOf_get _ _ j (by rw [rowsL, listOf_len] at hj; exact hj)]
            exact hi _ _)
          rw [hlen.out] at this
          exact this
        have HQ' : Hid (I = n + 1) := HQ.out
        go_wp2_with fail
        refine HO.out.mono ?_
        rintro e w7 ⟨hb7, hcase⟩
        have hB7 := hideD (beyondD hB.out hb7)
        have hsz := hB.out.size
        rcases hcase with ⟨ha, rfl⟩ | ⟨ha, hz⟩
        · go_wp2_with fail
          exact bodyPost_ret (v := .tuple #[.pointer none, .int .i64 7]) (by simp [results, Try.results28, go_sem]) rfl ⟨hB7.out, .inl ⟨by rw [show rowsL n r (n + 1) = rowsL n r I from by rw [HQ'.out]]; exact ha, rfl⟩⟩
        · cases ez : zoneR n (tgAll n (rowsL n r I) m (startR n (n + 1) 0)) with
          | none =>
            rw [ez] at hz
            obtain rfl := hz
            go_wp2_with fail
            exact bodyPost_ret (v := .tuple #[.pointer none, .int .i64 10]) (by simp [results, Try.results28, go_sem]) rfl ⟨hB7.out, .inr ⟨by rw [show rowsL n r (n + 1) = rowsL n r I from by rw [HQ'.out]]; exact ha, by rw [show rowsL n r (n + 1) = rowsL n r I from by rw [HQ'.out], ez]; exact rfl⟩⟩
          | some c =>
            rw [ez] at hz
            obtain ⟨b', hb', rfl, hz⟩ := hz
            go_wp2_with fail
            exact bodyPost_ret (v := .tuple #[.pointer (some ⟨b', 0, none⟩), .int .i64 0]) (by simp [results, Try.results28, go_sem]) rfl ⟨hB7.out, .inr ⟨by rw [show rowsL n r (n + 1) = rowsL n r I from by rw [HQ'.out]]; exact ha, by rw [show rowsL n r (n + 1) = rowsL n r I from by rw [HQ'.out], ez]; exact ⟨b', Nat.le_trans hsz hb', rfl, hz⟩⟩⟩
end Go.Proofs.Ytohkbjkfpnhggaa

/-
  The contracts of ops: zone once more, Up, Down, free, limit.
-/
namespace Go.Proofs.Ytohkbjkfpnhggaa
open Go.RowKit
set_option linter.unusedVariables false
set_option maxRecDepth 100000
/-- What zone tells of a draft. -/
def OpsOut (w' : World) (B n : Nat) (e : Ending) (r : Mat) : Prop :=
  (allRight (rowsL n r (n + 1)) ((n + 1) * (n + 1)) = false ∧ e = errOf 7) ∨ (allRight (rowsL n r (n + 1)) ((n + 1) * (n + 1)) = true ∧ ZoneOut w' B n e (zoneR n (tgAll n (rowsL n r (n + 1)) ((n + 1) * (n + 1)) (startR n (n + 1) 0))))
def R32 (r : Mat) : Prop := ∀ i j, -2147483648 ≤ r i j ∧ r i j ≤ 2147483647
def C32 (c : Row) : Prop := ∀ k, -2147483648 ≤ c k ∧ c k ≤ 2147483647
theorem oR_32 {n K : Nat} {c : Row} (h : C32 c) : R32 (oR n c K) := fun i j => by
  unfold oR
  split
  · exact h _
  · omega
theorem R32.upd {r : Mat} (h : R32 r) {i j : Nat} {v : Int} (h0 : -2147483648 ≤ v) (h1 : v ≤ 2147483647) : R32 (upd r i j v) := fun a c => by
  unfold Go.Proofs.Ytohkbjkfpnhggaa.upd
  split
  · exact ⟨h0, h1⟩
  · exact h a c
theorem OpsOut.form {w' : World} {B n : Nat} {e : Ending} {r : Mat} (h : OpsOut w' B n e r) : ∃ p k, e = .returned (.tuple #[.pointer p, .int .i64 k]) := by
  rcases h with ⟨-, rfl⟩ | ⟨-, h⟩
  · exact ⟨_, _, rfl⟩
  · cases ez : zoneR n (tgAll n (rowsL n r (n + 1)) ((n + 1) * (n + 1)) (startR n (n + 1) 0)) with
    | none => rw [ez] at h; exact ⟨_, _, h⟩
    | some c =>
      rw [ez] at h
      obtain ⟨b', -, h, -⟩ := h
      exact ⟨_, _, h⟩
theorem ozone_out (b n B : Nat) (r : Mat) (w : World) (h : n ≤ 8) (hD : ODraft w b n r) (hi : R32 r) (hB : B ≤ w.heap.size) :
    Calls Try.prog 28 #[.pointer (some ⟨b, 0, none⟩)] w fun e w' => ∃ p k, e = .returned (.tuple #[.pointer p, .int .i64 k]) ∧ Hid (OpsOut w' B n (.returned (.tuple #[.pointer p, .int .i64 k])) r) ∧ Hid (Below w.heap.size w w') := by
  refine (ozone_any b n r w h hD hi).mono ?_
  intro e w' ⟨hb, ho⟩
  have ho' : OpsOut w' B n e r := by
    rcases ho with h1 | ⟨h1, h2⟩
    · exact .inl h1
    · refine .inr ⟨h1, ?_⟩
      cases ez : zoneR n (tgAll n (rowsL n r (n + 1)) ((n + 1) * (n + 1)) (startR n (n + 1) 0)) with
      | none => rw [ez] at h2; exact h2
      | some c =>
        rw [ez] at h2
        obtain ⟨b', q, h3, h4⟩ := h2
        exact ⟨b', Nat.le_trans hB q, h3, h4⟩
  obtain ⟨p, k, rfl⟩ := ho'.form
  exact ⟨p, k, rfl, ho', hb⟩
/-- Column 0 without bounds, up to row K. -/
def upM (K : Nat) (r : Mat) : Mat := fun i j => if j = 0 ∧ 1 ≤ i ∧ i < K then 2147483647 else r i j
theorem upM_next (K : Nat) (hK : 1 ≤ K) (r : Mat) : upd (upM K r) K 0 2147483647 = upM (K + 1) r := by
  funext a c
  unfold upd upM
  by_cases e : a = K ∧ c = 0
  · rw [if_pos e, if_pos (by omega)]
  · rw [if_neg e]
    congr 1
    apply propext
    omega
theorem upM_zero (r : Mat) : upM 1 r = r := by
  funext a c
  unfold upM
  rw [if_neg (by omega)]
theorem upM_32 {K : Nat} {r : Mat} (h : R32 r) : R32 (upM K r) := fun i j => by
  unfold upM
  split
  · omega
  · exact h i j
/-- Row 0 with nothing but that no clock is below 0, up to K. -/
def downM (K : Nat) (r : Mat) : Mat := fun i j => if i = 0 ∧ 1 ≤ j ∧ j < K then 1 else r i j
theorem downM_next (K : Nat) (hK : 1 ≤ K) (r : Mat) : upd (downM K r) 0 K 1 = downM (K + 1) r := by
  funext a c
  unfold upd downM
  by_cases e : a = 0 ∧ c = K
  · rw [if_pos e, if_pos (by omega)]
  · rw [if_neg e]
    congr 1
    apply propext
    omega
theorem downM_zero (r : Mat) : downM 1 r = r := by
  funext a c
  unfold downM
  rw [if_neg (by omega)]
theorem downM_32 {K : Nat} {r : Mat} (h : R32 r) : R32 (downM K r) := fun i j => by
  unfold downM
  split
  · omega
  · exact h i j
theorem up_nil (w : World) : Calls Try.prog 9 #[.pointer none] w fun e w' => e = errOf 1 ∧ w' = w := by
  go_enter Try.func9, Try.ntmps9
  go_wp2_with fail
  exact bodyPost_ret (v := .tuple #[.pointer none, .int .i64 1]) (by simp [results, Try.results9, go_sem]) rfl ⟨rfl, rfl⟩
set_option maxHeartbeats 2000000 in
theorem oup_any (b n : Nat) (c : Row) (w : World) (h : n ≤ 8) (hz : ZoneAt w b n c) (hc : C32 c) :
    Calls Try.prog 9 #[.pointer (some ⟨b, 0, none⟩)] w fun e w' => OpsOut w' w.heap.size n e (upM (n + 1) (oR n c ((n + 1) * (n + 1)))) ∧ Below w.heap.size w w' := by
  have HD := hideD (odraft_any b n c w h hz)
  have H32 := hideD (oR_32 (n := n) (K := (n + 1) * (n + 1)) hc)
  generalize oR n c ((n + 1) * (n + 1)) = r at *
  clear hz hc
  go_enter Try.func9, Try.ntmps9
  go_wp2_with fail
  refine HD.out.mono ?_
  rintro e w1 ⟨⟨d, rfl, hd, hD⟩, hb⟩
  rw [← upM_zero r] at hD
  have hD1 := hideD hD
  have hB1 := hideD hb
  clear hD hb HD
  go_wp2_with fail
  go_loopw [5] (fun s wr => ∃ (K : Nat), 1 ≤ K ∧ K ≤ n + 1 ∧ s = .int .i64 (K : Int) ∧ Hid (ODraft wr d n (upM K r)) ∧ Hid (Below w.heap.size w wr)) (fun s _ => n + 1 - (intOf s).toNat)
  case atStart => exact ⟨1, by omega, by omega, rfl, hD1, hB1⟩
  case round =>
    obtain ⟨K, hK1, hK, rfl, hD, hB⟩ := hrel
    clear hD1 hB1
    have q0 := hD.out.clocks
    by_cases ck : K ≤ n
    · have q1 := hD.out.cell K 0 (by omega) (by omega)
      have q2 := hD.out.free K 0 (by omega) (by omega)
      have q1' : wr.cell? ⟨d, 1 + K * 9, none⟩ = _ := q1
      have q2' : wr.frozen? ⟨d, 1 + K * 9, none⟩ = false := q2
      have hD2 := hideD (hD.out.set (i := K) (j := 0) (by omega) (by omega) 2147483647)
      rw [upM_next K hK1] at hD2
      have hB2 := hideD (hB.out.setCell (p := at9 d K 0) hd (.int .i32 2147483647))
      have y2 : (K : Int) < 9 := by omega
      clear hD hB
      go_wp2_with fail
      go_roundw
      case rel => exact ⟨K + 1, by omega, by omega, by go_num, hD2, hB2⟩
      case measure => simp [intOf]; omega
    · have eK : K = n + 1 := by omega
      have HZ := hideD (ozone_out d n w.heap.size (upM (n + 1) r) wr h (by rw [← eK]; exact hD.out) (upM_32 H32.out) hB.out.size)
      go_wp2_with fail
      refine HZ.out.mono ?_
      rintro e w2 ⟨p, k, rfl, ho, hb⟩
      go_wp2_with fail
      exact bodyPost_ret (v := .tuple #[.pointer p, .int .i64 k]) (by simp [results, Try.results9, go_sem]) rfl ⟨ho.out, beyondD hB.out hb.out⟩
end Go.Proofs.Ytohkbjkfpnhggaa
