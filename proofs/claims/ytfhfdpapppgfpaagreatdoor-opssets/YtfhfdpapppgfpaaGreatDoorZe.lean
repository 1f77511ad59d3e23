/-
  A draft of ops in memory, and the contracts of side, Dim, draftOf.
-/
import Derived.Test.YtfhfdpapppgfpaaGreatDoorZa
import Derived.Test.YtfhfdpapppgfpaaGreatDoorZb
import Derived.Test.YtfhfdpapppgfpaaGreatDoorZd
import Derived.Test.YtfhfdpapppgfpaaGreatDoorSw
namespace Go.Proofs.YtfhfdpapppgfpaaGreatDoor
open Go.RowKit
set_option linter.unusedVariables false
set_option maxRecDepth 100000
/-- In block b there lies a draft of ops of n clocks with these rows. -/
structure ODraft (w : World) (b n : Nat) (r : Mat) : Prop where
  clocks : w.cell? ⟨b, 0, none⟩ = some (.int .i64 n)
  cell : ∀ i j, i ≤ 8 → j ≤ 8 → w.cell? (at9 b i j) = some (.int .i32 (r i j))
  free : ∀ i j, i ≤ 8 → j ≤ 8 → w.frozen? (at9 b i j) = false
theorem ODraft.set {w : World} {b n : Nat} {r : Mat} (h : ODraft w b n r) {i j : Nat} (hi : i ≤ 8) (hj : j ≤ 8) (v : Int) : ODraft (w.setCell (at9 b i j) (.int .i32 v)) b n (upd r i j v) := by
  refine ⟨?_, ?_, ?_⟩
  · rw [World.cell?_setCell_other _ _ _ _ (by intro e; injection e; omega)]
    exact h.clocks
  · intro a c ha hc
    by_cases e : a = i ∧ c = j
    · obtain ⟨rfl, rfl⟩ := e
      rw [World.cell?_setCell_same _ _ _ (h.cell a c ha hc)]
      simp [upd]
    · rw [World.cell?_setCell_other _ _ _ _ (by intro e; injection e; omega), h.cell a c ha hc]
      simp [upd, e]
  · intro a c ha hc
    rw [World.frozen?_setCell]
    exact h.free a c ha hc
theorem ODraft.drewN {w : World} {b n : Nat} {r : Mat} (h : ODraft w b n r) (k : Nat) : ODraft (w.drewN k) b n r := ⟨h.clocks, h.cell, h.free⟩
theorem ODraft.drew {w : World} {b n : Nat} {r : Mat} (h : ODraft w b n r) : ODraft w.drew b n r := ⟨h.clocks, h.cell, h.free⟩
theorem ODraft.lt {w : World} {b n : Nat} {r : Mat} (h : ODraft w b n r) : b < w.heap.size := World.block_lt_of_cell? _ _ h.clocks
theorem ODraft.later {w w' : World} {b n : Nat} {r : Mat} (h : ODraft w b n r) {B : Nat} (hb : Below B w w') (hB : b < B) : ODraft w' b n r :=
  ⟨(hb.cell hB).trans h.clocks, fun i j hi hj => (hb.cell (p := at9 b i j) hB).trans (h.cell i j hi hj), fun i j hi hj => (hb.frozen (p := at9 b i j) hB).trans (h.free i j hi hj)⟩
theorem ODraft.past {w w' : World} {b n : Nat} {r : Mat} (h : ODraft w b n r) (hb : Below w.heap.size w w') : ODraft w' b n r := h.later hb h.lt
theorem ODraft.ext {w : World} {b n : Nat} {r s : Mat} (h : ODraft w b n r) (e : ∀ i j, i ≤ 8 → j ≤ 8 → r i j = s i j) : ODraft w b n s :=
  ⟨h.clocks, fun i j hi hj => by rw [h.cell i j hi hj, e i j hi hj], h.free⟩
theorem zeroO (w : World) : Sem.run Tryz.prog (zeroValue 80) w = .ok (.agg y82) w := by kernel_rfl
theorem new_odraft (w : World) (n : Nat) (T : TypeId) : ODraft (w.alloc (.cells (y82.setIfInBounds 0 (.int .i64 n)) T)) w.heap.size n (fun _ _ => 0) := by
  refine ⟨?_, ?_, ?_⟩
  · simp [go_sem, y82]
  · intro i j hi hj
    rw [World.cell?_alloc_at _ _ _ _ rfl, Array.getElem?_setIfInBounds_ne (by omega)]
    rw [y82, Array.getElem?_append_right (by simp; omega), Array.getElem?_replicate, if_pos (by simp; omega)]
  · intro i j hi hj
    simp [go_sem]
theorem oside_any (n : Nat) (w : World) (h : n ≤ 8) :
    Calls Tryz.prog 69 #[.agg #[.int .i64 n]] w fun e w' => e = .returned (.int .i64 ((n + 1 : Nat) : Int)) ∧ Below w.heap.size w w' := by
  go_enter Tryz.func69, Tryz.ntmps69
  go_wp2
  go_ret
  exact ⟨rI (by first | omega | (unfold wrap64; omega)), below_one _ _⟩
theorem dimZ_any (b : Nat) (n : Int) (w : World) (h : w.cell? ⟨b, 0, none⟩ = some (.int .i64 n)) :
    Calls Tryz.prog 40 #[.pointer (some ⟨b, 0, none⟩)] w fun e w' => e = .returned (.int .i64 n) ∧ w' = w := by
  go_enter Tryz.func40, Tryz.ntmps40
  go_wp2
  go_ret
  exact ⟨rfl, rfl⟩
/-- The rows of a zone's cells, the first K of them laid. -/
def oR (n : Nat) (c : Row) (K : Nat) : Mat := fun i j => if j ≤ n ∧ i * (n + 1) + j < K then c (i * (n + 1) + j) else 0
theorem oR_next (n : Nat) (c : Row) (K : Nat) : upd (oR n c K) (K / (n + 1)) (K % (n + 1)) (c K) = oR n c (K + 1) := by
  funext i j
  have d2 : K % (n + 1) ≤ n := by have := Nat.mod_lt K (show 0 < n + 1 by omega); omega
  have d3 : K / (n + 1) * (n + 1) + K % (n + 1) = K := by rw [Nat.mul_comm]; exact Nat.div_add_mod K (n + 1)
  unfold upd oR
  by_cases e : i = K / (n + 1) ∧ j = K % (n + 1)
  · obtain ⟨rfl, rfl⟩ := e
    rw [if_pos ⟨rfl, rfl⟩, d3, if_pos ⟨d2, by omega⟩]
  · rw [if_neg e]
    by_cases hj : j ≤ n
    · have ne : ¬ i * (n + 1) + j = K := by
        intro q
        have h1 : (i * (n + 1) + j) / (n + 1) = i := by rw [Nat.mul_comm, Nat.mul_add_div (by omega), Nat.div_eq_of_lt (by omega)]; rfl
        have h2 : (i * (n + 1) + j) % (n + 1) = j := by rw [Nat.mul_comm, Nat.mul_add_mod, Nat.mod_eq_of_lt (by omega)]
        rw [q] at h1 h2
        exact e ⟨h1.symm, h2.symm⟩
      congr 1
      apply propext
      constructor
      · rintro ⟨a, b⟩; exact ⟨a, by omega⟩
      · rintro ⟨a, b⟩; exact ⟨a, by omega⟩
    · rw [if_neg (by omega), if_neg (by omega)]
set_option maxHeartbeats 2000000 in
theorem odraft_any (b n : Nat) (c : Row) (w : World) (h : n ≤ 8) (hz : ZoneAt w b n c) :
    Calls Tryz.prog 26 #[.pointer (some ⟨b, 0, none⟩)] w fun e w' => (∃ d, e = .returned (.pointer (some ⟨d, 0, none⟩)) ∧ w.heap.size ≤ d ∧ ODraft w' d n (oR n c ((n + 1) * (n + 1)))) ∧ Below w.heap.size w w' := by
  have HD := hideD (dimZ_any b n w hz.clocks)
  have HC := hideD (cells_any b n c (w.alloc (.cells (y82.setIfInBounds 0 (.int .i64 n)) 80)) (hz.past (below_one _ _)) h)
  have Z := fun w => zeroO w
  have Zn := y82_ne
  have D0 := hideD (new_odraft w n 80)
  have B0 := hideD (below_one w (.cells (y82.setIfInBounds 0 (.int .i64 n)) 80))
  have HS : Hid (∀ w, Calls Tryz.prog 69 #[.agg #[.int .i64 n]] w fun e w' => e = .returned (.int .i64 ((n + 1 : Nat) : Int)) ∧ Below w.heap.size w w') := fun w => oside_any n w h
  clear hz
  go_enter Tryz.func26, Tryz.ntmps26
  go_wp2_with fail
  refine HD.out.mono ?_
  rintro e w' ⟨rfl, rfl⟩
  go_wp2_with fail
  refine HC.out.mono ?_
  rintro e w1 ⟨⟨v, rfl, g, cap, rfl, hg, hgl, hr⟩, hb⟩
  have hD1 := hideD (D0.out.later hb D0.out.lt)
  have hB1 := hideD (beyondD B0.out hb)
  have hG : Hid (g < w1.heap.size ∧ ∀ k, k < (n + 1) * (n + 1) → w1.cell? ⟨g, k, none⟩ = some (.int .i32 (c k))) := ⟨hgl, fun k hk => by
    have := hr k (by rw [listOf_len]; exact hk)
    rw [listOf_get c _ k hk] at this
    simpa using this⟩
  have hgd : Hid (w'.heap.size < g) := by have := B0.out.size; simp at hg; exact hg
  clear hr hb HC HD D0 B0 Z Zn hg hgl
  rw [listOf_len]
  have hm81 : (n + 1) * (n + 1) ≤ 81 := Nat.mul_le_mul (show n + 1 ≤ 9 by omega) (show n + 1 ≤ 9 by omega)
  have e0 : (fun _ _ => (0 : Int)) = oR n c 0 := by funext a b; simp [oR]
  rw [e0] at hD1
  clear e0
  have HQ : Hid (∀ k, k < (n + 1) * (n + 1) → k / (n + 1) ≤ n ∧ k % (n + 1) ≤ n) := fun k hk => ⟨by have := Nat.div_lt_of_lt_mul hk; omega, by have := Nat.mod_lt k (show 0 < n + 1 by omega); omega⟩
  have HT : Hid (∀ k : Nat, k < (n + 1) * (n + 1) → IntKind.i64.wrap ((k : Int) / ((n + 1 : Nat) : Int)) = ((k / (n + 1) : Nat) : Int) ∧ (k : Int) % ((n + 1 : Nat) : Int) = ((k % (n + 1) : Nat) : Int)) := fun k hk => by
    constructor
    · rw [← Int.natCast_ediv]
      have := Nat.div_le_self k (n + 1)
      generalize k / (n + 1) = z at *
      rw [IntKind.wrap_i64]
      omega
    · rw [← Int.natCast_emod]
  have HP : Hid (∀ wr, ODraft wr w'.heap.size n (oR n c ((n + 1) * (n + 1))) → Below w'.heap.size w' wr → (∃ d, Ending.returned (.pointer (some ⟨w'.heap.size, 0, none⟩)) = Ending.returned (.pointer (some ⟨d, 0, none⟩)) ∧ w'.heap.size ≤ d ∧ ODraft wr d n (oR n c ((n + 1) * (n + 1)))) ∧ Below w'.heap.size w' wr) := fun wr h1 h2 => ⟨⟨_, rfl, Nat.le_refl _, h1⟩, h2⟩
  have s0 : ¬ ((n + 1 : Nat) : Int) = 0 := by omega
  generalize hm : (n + 1) * (n + 1) = m at *
  have HM := hideD hm
  clear hm
  have m1 : (m : Int) ≤ 81 := by omega
  go_wp2_with fail
  go_loopw [14] (fun s wr => ∃ (K : Nat), K ≤ m ∧ s = .int .i64 K ∧ Hid (ODraft wr w'.heap.size n (oR n c K)) ∧ Hid (Below w'.heap.size w' wr) ∧ Hid (wr.heap.size ≥ w1.heap.size ∧ ∀ k, k < m → wr.cell? ⟨g, k, none⟩ = some (.int .i32 (c k)))) (fun s _ => m - (intOf s).toNat)
  case atStart => exact ⟨0, by omega, rfl, hD1, hB1, Nat.le_refl _, hG.out.2⟩
  case round =>
    obtain ⟨K, hK, rfl, hD, hB, hC⟩ := hrel
    clear hD1 hB1
    by_cases ck : K < m
    · have hrow := hC.out.2 K ck
      obtain ⟨i1, j1⟩ := HQ.out K ck
      obtain ⟨t1, t2⟩ := HT.out K ck
      have nx := hideD (oR_next n c K)
      generalize K / (n + 1) = i at *
      generalize K % (n + 1) = j at *
      generalize c K = x at *
      generalize ((n + 1 : Nat) : Int) = s at *
      have k0 : (0 : Int) ≤ (K : Int) := by omega
      have k1 : (K : Int) < (m : Int) := by omega
      go_upto_region 5 with (fail)
      have q0 := hD.out.clocks
      have q1 := hD.out.cell i j (by omega) (by omega)
      have q2 := hD.out.free i j (by omega) (by omega)
      have B2 := Below.refl wr.heap.size wr
      have i8 : i ≤ 8 := by omega
      have t5 : (K : Int).tmod s = (j : Int) := by rw [Int.tmod_eq_emod_of_nonneg (by omega)]; exact t2
      have j8 : j ≤ 8 := by omega
      have i9 : i < 9 := by omega
      have j9 : j < 9 := by omega
      have a0 : (0 : Int) ≤ (i : Int) := by omega
      have a1 : (i : Int) < 9 := by omega
      have a2 : (0 : Int) ≤ (j : Int) := by omega
      have a3 : (j : Int) < 9 := by omega
      go_region_held3 (fun w2 => w2.cell? ⟨w'.heap.size, 0, none⟩ = some (.int .i64 n))
        (first | with_reducible assumption | (rw [World.cell?_setCell_other _ _ _ _ (by intro e; injection e; omega)]; with_reducible assumption) | go_keep)
        (first | (go_at_call 69; refine (HS.out _).mono ?_; rintro e' w2 ⟨rfl, hb⟩; have s0 := kc ⟨w'.heap.size, 0, none⟩ (.int .i64 n) hb (by first | assumption | simp [go_sem, *]); have s1 := beyondD (w := wr) (by first | assumption | (apply Below.drew; assumption)) hb; have s2 := kc (at9 w'.heap.size i j) _ hb (by first | assumption | simp [go_sem, *]); have s3 := kf (at9 w'.heap.size i j) _ hb (by first | assumption | simp [go_sem, *]) (by first | assumption | simp [go_sem, *])))
      all_goals
        have hD2 := hideD ((hD.out.past s1).set i8 j8 x)
        rw [nx.out] at hD2
        have hB2 := hideD ((beyondD hB.out s1).setCell (p := at9 w'.heap.size i j) (Nat.le_refl _) (.int .i32 x))
        have hC2 : Hid ((w2.setCell (at9 w'.heap.size i j) (.int .i32 x)).heap.size ≥ w1.heap.size ∧ ∀ k, k < m → (w2.setCell (at9 w'.heap.size i j) (.int .i32 x)).cell? ⟨g, k, none⟩ = some (.int .i32 (c k))) := ⟨by
          have := s1.size
          have := hC.out.1
          rw [World.size_setCell]
          omega, fun k hk => by
          rw [World.cell?_setCell_other _ _ _ _ (by have := hgd.out; intro e; injection e; omega)]
          exact (s1.cell (p := ⟨g, k, none⟩) (by have := hC.out.1; have := hG.out.1; show g < _; omega)).trans (hC.out.2 k hk)⟩
        clear hD hB hC s0 s1 s2 s3 hb hrow q0 q1 q2
        go_wp2_with fail
        go_roundw
        case rel => exact ⟨K + 1, by omega, by go_num, hD2, hB2, hC2⟩
        case measure => simp [intOf]; omega
    · have e : K = m := by omega
      subst e
      go_wp2_with fail
      exact bodyPost_ret (v := .pointer (some ⟨w'.heap.size, 0, none⟩)) (by simp [results, Tryz.results26, go_sem]) rfl (by rw [HM.out]; exact HP.out _ hD.out hB.out)
end Go.Proofs.YtfhfdpapppgfpaaGreatDoor

/-
  The contract of zone of ops: what becomes of a draft.
-/
namespace Go.Proofs.YtfhfdpapppgfpaaGreatDoor
open Go.RowKit
set_option linter.unusedVariables false
set_option maxRecDepth 100000
theorem own_past {w w' : World} {base : Nat} {e : TypeId} {size n : Nat} {v : Value} {xs : List Value} (h : w.ownsRow base e size v n xs) (hb : Below w.heap.size w w') : w'.ownsRow base e size v n xs := by
  refine ⟨h.1, ?_⟩
  rcases h.2 with ⟨rfl, h0⟩ | ⟨g, cap, cur, rfl, h1, h2, h3⟩
  · exact .inl ⟨rfl, h0⟩
  · refine .inr ⟨g, cap, cur, rfl, h1, (hb.block g ?_).trans h2, h3⟩
    rcases Nat.lt_or_ge g w.heap.size with h' | h'
    · exact h'
    · simp [Array.getElem?_eq_none h'] at h2
/-- The first rows of a matrix, one behind the other. -/
def rowsL (n : Nat) (r : Mat) (I : Nat) : List Int := listOf (flat n r) (I * (n + 1))
theorem rowsL_next (n : Nat) (r : Mat) (I : Nat) : rowsL n r (I + 1) = rowsL n r I ++ (List.range (n + 1)).map (r I) := by
  unfold rowsL listOf
  rw [Nat.succ_mul, List.range_add, List.map_append]
  congr 1
  rw [List.map_map]
  apply List.map_congr_left
  intro j hj
  have hj : j < n + 1 := by simpa using hj
  show flat n r (I * (n + 1) + j) = r I j
  unfold flat
  rw [Nat.mul_comm, Nat.mul_add_div (by omega), Nat.div_eq_of_lt hj, Nat.mul_add_mod, Nat.mod_eq_of_lt hj]
  rfl
set_option maxHeartbeats 4000000 in
theorem ozone_any (b n : Nat) (r : Mat) (w : World) (h : n ≤ 8) (hD : ODraft w b n r) (hi : ∀ i j, -2147483648 ≤ r i j ∧ r i j ≤ 2147483647) :
    Calls Tryz.prog 30 #[.pointer (some ⟨b, 0, none⟩)] w fun e w' => Below w.heap.size w w' ∧
      ((allRight (rowsL n r (n + 1)) ((n + 1) * (n + 1)) = false ∧ e = errOf 7) ∨ (allRight (rowsL n r (n + 1)) ((n + 1) * (n + 1)) = true ∧ ZoneOut w' w.heap.size n e (zoneR n (tgAll n (rowsL n r (n + 1)) ((n + 1) * (n + 1)) (startR n (n + 1) 0))))) := by
  have HS : Hid (∀ w, Calls Tryz.prog 69 #[.agg #[.int .i64 n]] w fun e w' => e = .returned (.int .i64 ((n + 1 : Nat) : Int)) ∧ Below w.heap.size w w') := fun w => oside_any n w h
  have hm81 : (n + 1) * (n + 1) ≤ 81 := Nat.mul_le_mul (show n + 1 ≤ 9 by omega) (show n + 1 ≤ 9 by omega)
  obtain ⟨i0, hi0, hz0, hz1, hz2⟩ := info_parts info_bd
  have e1 : IntKind.i64.wrap (((n + 1 : Nat) : Int) * ((n + 1 : Nat) : Int)) = (((n + 1) * (n + 1) : Nat) : Int) := by
    rw [← Int.natCast_mul]
    generalize (n + 1) * (n + 1) = z at *
    rw [IntKind.wrap_i64]
    omega
  have HD := hideD hD
  have hcl := hD.clocks
  have hbl := hD.lt
  generalize hm : (n + 1) * (n + 1) = m at *
  have HM := hideD hm
  clear hm
  obtain ⟨q, hq⟩ : ∃ q : Nat, q = n + 1 := ⟨_, rfl⟩
  rw [← hq] at HS e1
  have HQ := hideD hq
  have q9 : q ≤ 9 := by omega
  have q1 : 1 ≤ q := by omega
  have AL : Tryz.prog.arrayLen 77 = 9 := by kernel_rfl
  have q2 : (0 : Int) ≤ (q : Int) := by omega
  have q3 : (q : Int) ≤ 9 := by omega
  clear hq
  have MK : ∀ w, Sem.run Tryz.prog (Instr.makeSlice 22 (.int .i64 0) (.int .i64 (m : Int))) w = .ok (.slice (some ⟨w.heap.size, 0, none⟩) 0 m) (w.alloc (.cells (madeCells #[.int .i32 0] m) 45)) := fun w => by
    have := run_make (P := Tryz.prog) w 22 45 i0 (.int .i32 0) Tryz.underlying22 hi0 hz0 .i64 .i64 0 (m : Int) (Int.le_refl _) (by omega) (by rw [hz2]; omega) (by omega)
    rw [hz1] at this
    simpa [Value.cells] using this
  have mcs := hideD (size_madeCells #[.int .i32 0] m)
  generalize madeCells #[.int .i32 0] m = MC at *
  go_enter Tryz.func30, Tryz.ntmps30
  go_upto_region 1 with (fail)
  have B1 := Below.refl w.heap.size w
  go_region_held3 (fun w2 => w2.cell? ⟨b, 0, none⟩ = some (.int .i64 n))
    (first | with_reducible assumption | go_keep)
    (first
     | (go_at_call 69; refine (HS.out _).mono ?_; rintro e' w2 ⟨rfl, hb⟩; have s0 := kc ⟨b, 0, none⟩ (.int .i64 n) hb (by first | assumption | simp [go_sem, *]); have s1 := beyondD (w := w) (by first | assumption | (apply Below.drew; assumption)) hb; clear hb))
  all_goals
    have own0 := hideD (World.ownsRow_made (base := w.heap.size) (e := 45) (size := 1) w2 MC m s1.size (by unfold maxLen; omega) (by have := mcs.out; omega))
    have hB2 := hideD (s1.alloc s1.size (.cells MC 45))
    have hD2 := hideD (HD.out.past hB2.out)
    have hc2 := hD2.out.clocks
    generalize w2.heap.size = g0 at *
    generalize w2.alloc (.cells MC 45) = w3 at *
    clear s0 s1 B1 MK mcs hD
    have HD0 := HD
    clear HD
    go_wp2_with fail
    refine (HS.out _).mono ?_
    rintro e w4 ⟨rfl, hb⟩
    have own4 := hideD (own_past own0.out hb)
    have hD4 := hideD (hD2.out.past hb)
    have hB4 := hideD (beyondD hB2.out hb)
    clear hb own0 hD2 hB2 hc2
    go_wp2_with fail
    go_loopw [4, 23] (fun v s wr => ∃ (u : Value) (I : Nat), I ≤ q ∧ v = u ∧ s = .int .i64 I ∧ Hid (wr.ownsRow w.heap.size 45 1 u (I * q) ((rowsL n r I).map (Value.int .i32))) ∧ Hid (ODraft wr b n r) ∧ Hid (Below w.heap.size w wr)) (fun _ s _ => q - (intOf s).toNat)
    case atStart => exact ⟨_, 0, by omega, rfl, rfl, by show World.ownsRow _ _ _ _ _ _ _; rw [Nat.zero_mul]; simpa [rowsL, listOf] using own4.out, hD4, hB4⟩
    case round =>
      obtain ⟨u, I, hI, hv, rfl, hO, hD, hB⟩ := hrel
      replace hv := hv.symm
      subst hv
      clear own4 hD4 hB4
      by_cases cI : I < q
      · have i0' : (0 : Int) ≤ (I : Int) := by omega
        have i9' : (I : Int) < 9 := by omega
        have i9n : I < 9 := by omega
        have hcz := hD.out.clocks
        have HN : Hid (∀ W, Below wr.heap.size wr W → ∀ j x, (((List.range q).map (r I)).map (Value.int .i32))[j]? = some x → W.cell? ((⟨b, 1 + I * 9, none⟩ : Addr).add j) = some x) := by
          intro W hb j x hx
          rw [Addr.add_lit]
          by_cases hj : j < q
          · have := (hD.out.past hb).cell I j (by omega) (by omega)
            simp [hj] at hx
            rw [← hx]
            exact this
          · rw [List.getElem?_eq_none (by simp; omega)] at hx
            cases hx
        have B2 := Below.refl wr.heap.size wr
        have IQ : I * q + q ≤ 81 := by
          have : (I + 1) * q ≤ 9 * 9 := Nat.mul_le_mul (by omega) (by omega)
          rw [Nat.succ_mul] at this
          exact this
        have NX := hideD (rowsL_next n r I)
        have IQ' := hideD IQ
        clear IQ
        go_upto_region 5 with (fail)
        go_region_held3 (fun w2 => w2.cell? ⟨b, 0, none⟩ = some (.int .i64 n)) (first | with_reducible assumption | go_keep) (first
          | (go_at_call 69; refine (HS.out _).mono ?_; rintro e' w5 ⟨rfl, hb⟩; have s0 := kc ⟨b, 0, none⟩ (.int .i64 n) hb (by first | assumption | simp [go_sem, *]); have s1 := beyondD (w := wr) (by first | assumption | (apply Below.drew; assumption)) hb; clear hb)
          | (refine step_own rfl (.tmp 26) (.tmp 37) 22 rfl w.heap.size 45 i0 (.int .i32 0) 1 4 Tryz.underlying22 hi0 hz0 hz1 hz2 rfl (by decide) u (I * q) ((rowsL n r I).map (Value.int .i32)) (by simp [Act.eval]) (own_past hO.out s1) ⟨b, 1 + I * 9, none⟩ q 9 (((List.range q).map (r I)).map (Value.int .i32)) (by simp [Act.eval]) (by simp) (HN.out _ s1) (fun u hu => by simp at hu; obtain ⟨a, _, rfl⟩ := hu; rfl) (by have := IQ'.out; unfold maxLen; omega) (by have := IQ'.out; omega) (by have := s1.size; have := hB.out.size; omega) ?_; intro v' w6 hown' hgrow; have s4 := hideD hown'; have s7 := (beyondD hB.out s1).grown hgrow (by have := s1.size; have := hB.out.size; omega) (fun k hk => ((own_past hO.out s1).lt k hk).1); have s8 : w6.cell? ⟨b, 0, none⟩ = some (.int .i64 n) := (s7.cell hbl).trans hcl; clear hown' hgrow))
        all_goals
          have hD6 := hideD (HD0.out.past s7)
          have hB6 := hideD s7
          have hO6 : Hid (w6.ownsRow w.heap.size 45 1 v' ((I + 1) * q) ((rowsL n r (I + 1)).map (Value.int .i32))) := by
            show World.ownsRow _ _ _ _ _ _ _
            rw [NX.out, ← HQ.out, List.map_append, Nat.succ_mul]
            exact s4.out
          clear s0 s1 s4 s7 s8 hO hD hB HN NX B2 hcz
          go_wp2_with fail
          go_roundw
          case rel => exact ⟨v', I + 1, by omega, rfl, by go_num, hO6, hD6, hB6⟩
          case measure => simp [intOf]; omega
      · have eI : I = q := by omega
        subst eI
        have hcz := hD.out.clocks
        have hlen : Hid ((rowsL n r I).length = m) := by show _ = _; rw [rowsL, listOf_len, ← HM.out, HQ.out]
        have hform : ∃ g cap, u = .slice (some ⟨g, 0, none⟩) m cap ∧ RowAt wr g 0 (rowsL n r I) := by
          have e0 : I * I = m := by rw [← HM.out, HQ.out]
          have hO' := hO.out
          rw [e0] at hO'
          rcases hO'.2 with ⟨-, h0⟩ | ⟨g, cap, cur, rfl, h1⟩
          · have : 0 < I * I := Nat.mul_pos q1 q1
            omega
          · refine ⟨g, cap, rfl, fun j hj => ?_⟩
            have hc := World.ownsRow.cells hO' (g := g) rfl j (.int .i32 ((rowsL n r I).getD j 0)) (by simp [List.getD, hj])
            rw [Addr.add_lit] at hc
            exact hc
        obtain ⟨g, cap, rfl, hrow⟩ := hform
        have HO : Hid (Calls Tryz.prog 23 #[.int .i64 n, .slice (some ⟨g, 0, none⟩) m cap] wr fun e w' => Below wr.heap.size wr w' ∧
            ((allRight (rowsL n r I) m = false ∧ e = errOf 7) ∨ (allRight (rowsL n r I) m = true ∧ ZoneOut w' wr.heap.size n e (zoneR n (tgAll n (rowsL n r I) m (startR n (n + 1) 0)))))) := by
          have := of_main n g 0 cap (rowsL n r I) wr h (by rw [hlen.out, HM.out]) hrow (fun j hj => by
            rw [rowsL, listOf_get _ _ j (by rw [rowsL, listOf_len] at hj; exact hj)]
            exact hi _ _)
          rw [hlen.out] at this
          exact this
        have HQ' : Hid (I = n + 1) := HQ.out
        go_wp2_with fail
        refine HO.out.mono ?_
        rintro e w7 ⟨hb7, hcase⟩
        have hB7 := hideD (beyondD hB.out hb7)
        have hsz := hB.out.size
        rcases hcase with ⟨ha, rfl⟩ | ⟨ha, hz⟩
        · go_wp2_with fail
          exact bodyPost_ret (v := .tuple #[.pointer none, .int .i64 7]) (by simp [results, Tryz.results30, go_sem]) rfl ⟨hB7.out, .inl ⟨by rw [show rowsL n r (n + 1) = rowsL n r I from by rw [HQ'.out]]; exact ha, rfl⟩⟩
        · cases ez : zoneR n (tgAll n (rowsL n r I) m (startR n (n + 1) 0)) with
          | none =>
            rw [ez] at hz
            obtain rfl := hz
            go_wp2_with fail
            exact bodyPost_ret (v := .tuple #[.pointer none, .int .i64 10]) (by simp [results, Tryz.results30, go_sem]) rfl ⟨hB7.out, .inr ⟨by rw [show rowsL n r (n + 1) = rowsL n r I from by rw [HQ'.out]]; exact ha, by rw [show rowsL n r (n + 1) = rowsL n r I from by rw [HQ'.out], ez]; exact rfl⟩⟩
          | some c =>
            rw [ez] at hz
            obtain ⟨b', hb', rfl, hz⟩ := hz
            go_wp2_with fail
            exact bodyPost_ret (v := .tuple #[.pointer (some ⟨b', 0, none⟩), .int .i64 0]) (by simp [results, Tryz.results30, go_sem]) rfl ⟨hB7.out, .inr ⟨by rw [show rowsL n r (n + 1) = rowsL n r I from by rw [HQ'.out]]; exact ha, by rw [show rowsL n r (n + 1) = rowsL n r I from by rw [HQ'.out], ez]; exact ⟨b', Nat.le_trans hsz hb', rfl, hz⟩⟩⟩
end Go.Proofs.YtfhfdpapppgfpaaGreatDoor

/-
  The contracts of ops: zone once more, Up, Down, free, limit.
-/
namespace Go.Proofs.YtfhfdpapppgfpaaGreatDoor
open Go.RowKit
set_option linter.unusedVariables false
set_option maxRecDepth 100000
/-- What zone tells of a draft. -/
def OpsOut (w' : World) (B n : Nat) (e : Ending) (r : Mat) : Prop :=
  (allRight (rowsL n r (n + 1)) ((n + 1) * (n + 1)) = false ∧ e = errOf 7) ∨ (allRight (rowsL n r (n + 1)) ((n + 1) * (n + 1)) = true ∧ ZoneOut w' B n e (zoneR n (tgAll n (rowsL n r (n + 1)) ((n + 1) * (n + 1)) (startR n (n + 1) 0))))
def R32 (r : Mat) : Prop := ∀ i j, -2147483648 ≤ r i j ∧ r i j ≤ 2147483647
def C32 (c : Row) : Prop := ∀ k, -2147483648 ≤ c k ∧ c k ≤ 2147483647
theorem oR_32 {n K : Nat} {c : Row} (h : C32 c) : R32 (oR n c K) := fun i j => by
  unfold oR
  split
  · exact h _
  · omega
theorem R32.upd {r : Mat} (h : R32 r) {i j : Nat} {v : Int} (h0 : -2147483648 ≤ v) (h1 : v ≤ 2147483647) : R32 (upd r i j v) := fun a c => by
  unfold Go.Proofs.YtfhfdpapppgfpaaGreatDoor.upd
  split
  · exact ⟨h0, h1⟩
  · exact h a c
theorem OpsOut.form {w' : World} {B n : Nat} {e : Ending} {r : Mat} (h : OpsOut w' B n e r) : ∃ p k, e = .returned (.tuple #[.pointer p, .int .i64 k]) := by
  rcases h with ⟨-, rfl⟩ | ⟨-, h⟩
  · exact ⟨_, _, rfl⟩
  · cases ez : zoneR n (tgAll n (rowsL n r (n + 1)) ((n + 1) * (n + 1)) (startR n (n + 1) 0)) with
    | none => rw [ez] at h; exact ⟨_, _, h⟩
    | some c =>
      rw [ez] at h
      obtain ⟨b', -, h, -⟩ := h
      exact ⟨_, _, h⟩
theorem ozone_out (b n B : Nat) (r : Mat) (w : World) (h : n ≤ 8) (hD : ODraft w b n r) (hi : R32 r) (hB : B ≤ w.heap.size) :
    Calls Tryz.prog 30 #[.pointer (some ⟨b, 0, none⟩)] w fun e w' => ∃ p k, e = .returned (.tuple #[.pointer p, .int .i64 k]) ∧ Hid (OpsOut w' B n (.returned (.tuple #[.pointer p, .int .i64 k])) r) ∧ Hid (Below w.heap.size w w') := by
  refine (ozone_any b n r w h hD hi).mono ?_
  intro e w' ⟨hb, ho⟩
  have ho' : OpsOut w' B n e r := by
    rcases ho with h1 | ⟨h1, h2⟩
    · exact .inl h1
    · refine .inr ⟨h1, ?_⟩
      cases ez : zoneR n (tgAll n (rowsL n r (n + 1)) ((n + 1) * (n + 1)) (startR n (n + 1) 0)) with
      | none => rw [ez] at h2; exact h2
      | some c =>
        rw [ez] at h2
        obtain ⟨b', q, h3, h4⟩ := h2
        exact ⟨b', Nat.le_trans hB q, h3, h4⟩
  obtain ⟨p, k, rfl⟩ := ho'.form
  exact ⟨p, k, rfl, ho', hb⟩
/-- Column 0 without bounds, up to row K. -/
def upM (K : Nat) (r : Mat) : Mat := fun i j => if j = 0 ∧ 1 ≤ i ∧ i < K then 2147483647 else r i j
theorem upM_next (K : Nat) (hK : 1 ≤ K) (r : Mat) : upd (upM K r) K 0 2147483647 = upM (K + 1) r := by
  funext a c
  unfold upd upM
  by_cases e : a = K ∧ c = 0
  · rw [if_pos e, if_pos (by omega)]
  · rw [if_neg e]
    congr 1
    apply propext
    omega
theorem upM_zero (r : Mat) : upM 1 r = r := by
  funext a c
  unfold upM
  rw [if_neg (by omega)]
theorem upM_32 {K : Nat} {r : Mat} (h : R32 r) : R32 (upM K r) := fun i j => by
  unfold upM
  split
  · omega
  · exact h i j
/-- Row 0 with nothing but that no clock is below 0, up to K. -/
def downM (K : Nat) (r : Mat) : Mat := fun i j => if i = 0 ∧ 1 ≤ j ∧ j < K then 1 else r i j
theorem downM_next (K : Nat) (hK : 1 ≤ K) (r : Mat) : upd (downM K r) 0 K 1 = downM (K + 1) r := by
  funext a c
  unfold upd downM
  by_cases e : a = 0 ∧ c = K
  · rw [if_pos e, if_pos (by omega)]
  · rw [if_neg e]
    congr 1
    apply propext
    omega
theorem downM_zero (r : Mat) : downM 1 r = r := by
  funext a c
  unfold downM
  rw [if_neg (by omega)]
theorem downM_32 {K : Nat} {r : Mat} (h : R32 r) : R32 (downM K r) := fun i j => by
  unfold downM
  split
  · omega
  · exact h i j
theorem up_nil (w : World) : Calls Tryz.prog 20 #[.pointer none] w fun e w' => e = errOf 1 ∧ w' = w := by
  go_enter Tryz.func20, Tryz.ntmps20
  go_wp2_with fail
  exact bodyPost_ret (v := .tuple #[.pointer none, .int .i64 1]) (by simp [results, Tryz.results20, go_sem]) rfl ⟨rfl, rfl⟩
set_option maxHeartbeats 2000000 in
theorem up_any (b n : Nat) (c : Row) (w : World) (h : n ≤ 8) (hz : ZoneAt w b n c) (hc : C32 c) :
    Calls Tryz.prog 20 #[.pointer (some ⟨b, 0, none⟩)] w fun e w' => OpsOut w' w.heap.size n e (upM (n + 1) (oR n c ((n + 1) * (n + 1)))) ∧ Below w.heap.size w w' := by
  have HD := hideD (odraft_any b n c w h hz)
  have H32 := hideD (oR_32 (n := n) (K := (n + 1) * (n + 1)) hc)
  generalize oR n c ((n + 1) * (n + 1)) = r at *
  clear hz hc
  go_enter Tryz.func20, Tryz.ntmps20
  go_wp2_with fail
  refine HD.out.mono ?_
  rintro e w1 ⟨⟨d, rfl, hd, hD⟩, hb⟩
  rw [← upM_zero r] at hD
  have hD1 := hideD hD
  have hB1 := hideD hb
  clear hD hb HD
  go_wp2_with fail
  go_loopw [5] (fun s wr => ∃ (K : Nat), 1 ≤ K ∧ K ≤ n + 1 ∧ s = .int .i64 (K : Int) ∧ Hid (ODraft wr d n (upM K r)) ∧ Hid (Below w.heap.size w wr)) (fun s _ => n + 1 - (intOf s).toNat)
  case atStart => exact ⟨1, by omega, by omega, rfl, hD1, hB1⟩
  case round =>
    obtain ⟨K, hK1, hK, rfl, hD, hB⟩ := hrel
    clear hD1 hB1
    have q0 := hD.out.clocks
    by_cases ck : K ≤ n
    · have q1 := hD.out.cell K 0 (by omega) (by omega)
      have q2 := hD.out.free K 0 (by omega) (by omega)
      have q1' : wr.cell? ⟨d, 1 + K * 9, none⟩ = _ := q1
      have q2' : wr.frozen? ⟨d, 1 + K * 9, none⟩ = false := q2
      have hD2 := hideD (hD.out.set (i := K) (j := 0) (by omega) (by omega) 2147483647)
      rw [upM_next K hK1] at hD2
      have hB2 := hideD (hB.out.setCell (p := at9 d K 0) hd (.int .i32 2147483647))
      have y2 : (K : Int) < 9 := by omega
      clear hD hB
      go_wp2_with fail
      go_roundw
      case rel => exact ⟨K + 1, by omega, by omega, by go_num, hD2, hB2⟩
      case measure => simp [intOf]; omega
    · have eK : K = n + 1 := by omega
      have HZ := hideD (ozone_out d n w.heap.size (upM (n + 1) r) wr h (by rw [← eK]; exact hD.out) (upM_32 H32.out) hB.out.size)
      go_wp2_with fail
      refine HZ.out.mono ?_
      rintro e w2 ⟨p, k, rfl, ho, hb⟩
      go_wp2_with fail
      exact bodyPost_ret (v := .tuple #[.pointer p, .int .i64 k]) (by simp [results, Tryz.results20, go_sem]) rfl ⟨ho.out, beyondD hB.out hb.out⟩
end Go.Proofs.YtfhfdpapppgfpaaGreatDoor

/-
  The contracts of ops: free, limit, has, bounds, limitOf, exactly, settable.
-/
namespace Go.Proofs.YtfhfdpapppgfpaaGreatDoor
open Go.RowKit
set_option linter.unusedVariables false
set_option maxRecDepth 100000
/-- Of what was there, only block d may have turned. -/
def OnlyB (d : Nat) (w w' : World) : Prop := w.heap.size ≤ w'.heap.size ∧ ∀ k, k < w.heap.size → k ≠ d → w'.heap[k]? = w.heap[k]?
theorem OnlyB.refl (d : Nat) (w : World) : OnlyB d w w := ⟨Nat.le_refl _, fun _ _ _ => rfl⟩
theorem OnlyB.trans {d : Nat} {a b c : World} (h : OnlyB d a b) (k : OnlyB d b c) : OnlyB d a c := ⟨Nat.le_trans h.1 k.1, fun i hi hd => (k.2 i (Nat.lt_of_lt_of_le hi h.1) hd).trans (h.2 i hi hd)⟩
theorem OnlyB.below {d : Nat} {w w' : World} (h : Below w.heap.size w w') : OnlyB d w w' := ⟨h.size, fun k hk _ => h.block k hk⟩
theorem OnlyB.set {d : Nat} {a w : World} (h : OnlyB d a w) {p : Addr} (hp : p.block = d) (v : Value) : OnlyB d a (w.setCell p v) := ⟨by rw [World.size_setCell]; exact h.1, fun k hk hd => by rw [Below.heap_setCell _ _ _ _ (by omega)]; exact h.2 k hk hd⟩
theorem OnlyB.drew {d : Nat} {a w : World} (h : OnlyB d a w) : OnlyB d a w.drew := ⟨h.1, h.2⟩
theorem OnlyB.cell {d : Nat} {w w' : World} (h : OnlyB d w w') {p : Addr} (hp : p.block < w.heap.size) (hd : p.block ≠ d) : w'.cell? p = w.cell? p := World.cell?_of_block (w := w) (h.2 p.block hp hd)
theorem OnlyB.frozen {d : Nat} {w w' : World} (h : OnlyB d w w') {p : Addr} (hp : p.block < w.heap.size) (hd : p.block ≠ d) : w'.frozen? p = w.frozen? p := World.frozen?_of_block (w := w) (h.2 p.block hp hd)
def freeS (x i : Nat) (r : Mat) : Mat := upd (upd r x i 2147483647) i x (upd r x i 2147483647 i 0)
def freeK (x : Nat) : Nat → Mat → Mat
  | 0, r => r
  | K + 1, r => freeS x K (freeK x K r)
theorem freeK_32 {x : Nat} {r : Mat} (h : R32 r) : ∀ K, R32 (freeK x K r)
  | 0 => h
  | K + 1 => by
    have h1 := (freeK_32 (x := x) h K).upd (i := x) (j := K) (v := 2147483647) (by omega) (by omega)
    exact h1.upd (h1 K 0).1 (h1 K 0).2
set_option maxHeartbeats 2000000 in
theorem free_any (b n x : Nat) (r : Mat) (w : World) (h : n ≤ 8) (hx : x ≤ 8) (hD : ODraft w b n r) :
    Calls Tryz.prog 27 #[.pointer (some ⟨b, 0, none⟩), .int .i64 x] w fun e w' => e = .returned (.tuple #[]) ∧ ODraft w' b n (freeK x (n + 1) r) ∧ Below b w w' ∧ OnlyB b w w' := by
  have HD := hideD hD
  have x0 : (0 : Int) ≤ (x : Int) := by omega
  have x9 : (x : Int) < 9 := by omega
  clear hD
  go_enter Tryz.func27, Tryz.ntmps27
  go_wp2_with fail
  go_loopw [4] (fun s wr => ∃ (K : Nat), K ≤ n + 1 ∧ s = .int .i64 (K : Int) ∧ Hid (ODraft wr b n (freeK x K r)) ∧ Hid (Below b w wr) ∧ Hid (OnlyB b w wr)) (fun s _ => n + 1 - (intOf s).toNat)
  case atStart => exact ⟨0, by omega, rfl, HD, Below.refl _ _, OnlyB.refl _ _⟩
  case round =>
    obtain ⟨K, hK, rfl, hD, hB, hO⟩ := hrel
    clear HD
    have q0 := hD.out.clocks
    by_cases ck : K ≤ n
    · have k9 : (K : Int) < 9 := by omega
      have q1 := hD.out.cell x K hx (by omega)
      have q2 := hD.out.free x K hx (by omega)
      have hD2 := hideD (hD.out.set (i := x) (j := K) hx (by omega) 2147483647)
      have hB2 := hideD (hB.out.setCell (p := at9 b x K) (Nat.le_refl _) (.int .i32 2147483647))
      have hO2 := hideD (hO.out.set (p := at9 b x K) rfl (.int .i32 2147483647))
      have nx : Hid (freeK x (K + 1) r = upd (upd (freeK x K r) x K 2147483647) K x (upd (freeK x K r) x K 2147483647 K 0)) := rfl
      generalize freeK x K r = s at *
      clear hD hB hO
      go_upto_region 4 with (fail)
      generalize wr.setCell (at9 b x K) (.int .i32 2147483647) = w2 at *
      clear q0 q1 q2
      have q0 := hD2.out.clocks
      have q1 := hD2.out.cell K x (by omega) hx
      have q2 := hD2.out.free K x (by omega) hx
      have q3 : w2.cell? ⟨b, 1 + K * 9, none⟩ = some (.int .i32 (upd s x K 2147483647 K 0)) := hD2.out.cell K 0 (by omega) (by omega)
      have hD3 := hideD (hD2.out.set (i := K) (j := x) (by omega) hx (upd s x K 2147483647 K 0))
      have hB3 := hideD (hB2.out.setCell (p := at9 b K x) (Nat.le_refl _) (.int .i32 (upd s x K 2147483647 K 0)))
      have hO3 := hideD (hO2.out.set (p := at9 b K x) rfl (.int .i32 (upd s x K 2147483647 K 0)))
      rw [← nx.out] at hD3
      generalize upd s x K 2147483647 K 0 = y at *
      clear hD2 hB2 hO2
      go_big_region
      all_goals
        have hD4 := hideD (hD3.out.drew)
        have hB4 := hideD (hB3.out.drew)
        have hO4 := hideD (hO3.out.drew)
        go_wp2_with fail
        go_roundw
        case rel => exact ⟨K + 1, by omega, by go_num, by first | exact hD4 | exact hD3, by first | exact hB4 | exact hB3, by first | exact hO4 | exact hO3⟩
        case measure => simp [intOf]; omega
    · have eK : K = n + 1 := by omega
      subst eK
      go_wp2_with fail
      go_end0
      exact ⟨rfl, hD.out, hB.out, hO.out⟩
set_option maxHeartbeats 2000000 in
theorem limit_any (b n i j : Nat) (x : Int) (r : Mat) (w : World) (i8 : i ≤ 8) (j8 : j ≤ 8) (hD : ODraft w b n r) :
    Calls Tryz.prog 29 #[.pointer (some ⟨b, 0, none⟩), .agg #[.int .i64 i, .int .i64 j, .int .i32 x]] w fun e w' => e = .returned (.tuple #[]) ∧ ODraft w' b n (upd r i j (min (r i j) x)) ∧ Below b w w' ∧ OnlyB b w w' := by
  have a0 : (0 : Int) ≤ (i : Int) := by omega
  have a1 : (i : Int) < 9 := by omega
  have a2 : (0 : Int) ≤ (j : Int) := by omega
  have a3 : (j : Int) < 9 := by omega
  have B0 := below_one w (.cells #[.int .i64 i, .int .i64 j, .int .i32 x] 47)
  have hD1 := hideD (hD.past B0)
  have c0 : (w.alloc (.cells #[.int .i64 i, .int .i64 j, .int .i32 x] 47)).cell? ⟨w.heap.size, 0, none⟩ = some (.int .i64 i) := by simp [go_sem]
  have c1 : (w.alloc (.cells #[.int .i64 i, .int .i64 j, .int .i32 x] 47)).cell? ⟨w.heap.size, 1, none⟩ = some (.int .i64 j) := by simp [go_sem]
  have c2 : (w.alloc (.cells #[.int .i64 i, .int .i64 j, .int .i32 x] 47)).cell? ⟨w.heap.size, 2, none⟩ = some (.int .i32 x) := by simp [go_sem]
  have hB1 := hideD (B0.mono (Nat.le_of_lt hD.lt))
  have hO1 := hideD (OnlyB.below (d := b) B0)
  clear B0 hD
  go_enter Tryz.func29, Tryz.ntmps29
  go_upto_region 1 with (fail)
  generalize w.alloc (.cells #[.int .i64 i, .int .i64 j, .int .i32 x] 47) = w1 at *
  generalize w.heap.size = bl at *
  go_big_region
  all_goals
    have q1 := hD1.out.cell i j i8 j8
    have q2 := hD1.out.free i j i8 j8
    have hD2 := hideD (fun v => hD1.out.set i8 j8 v)
    have hB2 := hideD (fun v => hB1.out.setCell (p := at9 b i j) (Nat.le_refl _) v)
    have hO2 := hideD (fun v => hO1.out.set (p := at9 b i j) rfl v)
    have MM : Hid (min (r i j) x = if x < r i j then x else r i j) := by show _ = _; split <;> omega
    generalize ey : r i j = y at *
    have EY := hideD ey
    clear ey
    go_wp2_with fail
    go_big_region
  all_goals
    have hD3 := hideD (hD2.out (min y x))
    have hB3 := hideD (hB2.out (.int .i32 (min y x)))
    have hO3 := hideD (hO2.out (.int .i32 (min y x)))
    rw [MM.out] at hD3 hB3 hO3
    have MM' := MM.out
    generalize (if x < y then x else y) = z at *
    have MM := hideD MM'
    clear MM'
    have hD4 := hideD (hD3.out.drew)
    have hB4 := hideD (hB3.out.drew)
    have hD5 := hideD (hD4.out.drew)
    have hB5 := hideD (hB4.out.drew)
    have hO4 := hideD (hO3.out.drew)
    have hO5 := hideD (hO4.out.drew)
    go_wp2_with fail
    go_end0
    exact ⟨rfl, by rw [EY.out, MM.out]; first | exact hD3.out | exact hD4.out | exact hD5.out, by first | exact hB3.out | exact hB4.out | exact hB5.out | (rw [MM.out]; first | exact hB3.out | exact hB4.out | exact hB5.out), by first | exact hO3.out | exact hO4.out | exact hO5.out | (rw [MM.out]; first | exact hO3.out | exact hO4.out | exact hO5.out)⟩
theorem bounds_any (n : Nat) (i j x : Int) (w : World) :
    Calls Tryz.prog 55 #[.agg #[.int .i64 n], .agg #[.int .i64 i, .int .i64 j, .int .i32 x]] w fun e w' => e = .returned (.bool (decide (0 ≤ i ∧ i ≤ n ∧ 0 ≤ j ∧ j ≤ n))) ∧ Below w.heap.size w w' := by
  have B0 : Hid (Below w.heap.size w ((w.alloc (.cells #[.int .i64 n] 75)).alloc (.cells #[.int .i64 i, .int .i64 j, .int .i32 x] 47))) := ((Below.refl _ _).alloc (Nat.le_refl _) _).alloc (by simp) _
  by_cases h1 : 0 ≤ i
  · by_cases h2 : i ≤ n
    · by_cases h3 : 0 ≤ j
      · by_cases h4 : j ≤ n
        · rw [decide_eq_true ⟨h1, h2, h3, h4⟩]
          go_enter Tryz.func55, Tryz.ntmps55
          go_wp2_with fail
          go_ret
          exact ⟨rfl, B0.out⟩
        · rw [decide_eq_false (by omega)]
          go_enter Tryz.func55, Tryz.ntmps55
          go_wp2_with fail
          go_ret
          exact ⟨rfl, B0.out⟩
      · rw [decide_eq_false (by omega)]
        go_enter Tryz.func55, Tryz.ntmps55
        go_wp2_with fail
        go_ret
        exact ⟨rfl, B0.out⟩
    · rw [decide_eq_false (by omega)]
      go_enter Tryz.func55, Tryz.ntmps55
      go_wp2_with fail
      go_ret
      exact ⟨rfl, B0.out⟩
  · rw [decide_eq_false (by omega)]
    go_enter Tryz.func55, Tryz.ntmps55
    go_wp2_with fail
    go_ret
    exact ⟨rfl, B0.out⟩
theorem limitOf_any (i j n : Int) (s : Bool) (w : World) :
    Calls Tryz.prog 70 #[.int .i64 i, .int .i64 j, .int .i64 n, .bool s] w fun e w' => e = .returned (.agg #[.int .i64 i, .int .i64 j, .int .i32 (ofB n (!s))]) ∧ Below w.heap.size w w' := by
  have H1 : Hid (∀ w, Calls Tryz.prog 83 #[.int .i64 n] w fun e w' => e = .returned (.tuple #[.int .i32 (ofB n true), .int .i64 (ofE n)]) ∧ w' = w) := fun w => atMost_any n w
  have H2 : Hid (∀ w, Calls Tryz.prog 84 #[.int .i64 n] w fun e w' => e = .returned (.tuple #[.int .i32 (ofB n false), .int .i64 (ofE n)]) ∧ w' = w) := fun w => lessThan_any n w
  cases s
  · go_enter Tryz.func70, Tryz.ntmps70
    go_wp2_with fail
    refine (H1.out _).mono ?_
    rintro e w' ⟨rfl, rfl⟩
    go_wp2_with fail
    refine bodyPost_ret (v := .agg #[.int .i64 i, .int .i64 j, .int .i32 (ofB n true)]) (by simp [results, Tryz.results70, go_sem]) rfl ⟨rfl, ?_⟩
    exact below_one _ _
  · go_enter Tryz.func70, Tryz.ntmps70
    go_wp2_with fail
    refine (H1.out _).mono ?_
    rintro e w' ⟨rfl, rfl⟩
    go_wp2_with fail
    refine (H2.out _).mono ?_
    rintro e w' ⟨rfl, rfl⟩
    go_wp2_with fail
    refine bodyPost_ret (v := .agg #[.int .i64 i, .int .i64 j, .int .i32 (ofB n false)]) (by simp [results, Tryz.results70, go_sem]) rfl ⟨rfl, ?_⟩
    exact below_one _ _
end Go.Proofs.YtfhfdpapppgfpaaGreatDoor

/-
  The contracts of ops: has, exactly, settable.
-/
namespace Go.Proofs.YtfhfdpapppgfpaaGreatDoor
open Go.RowKit
set_option linter.unusedVariables false
set_option maxRecDepth 100000
/-- A slice of whole numbers reads so. -/
def IntsAt (w : World) (v : Value) (l : List Int) : Prop := (∃ ad c, v = .slice ad 0 c ∧ l = []) ∨ (∃ b off cap, v = .slice (some ⟨b, off, none⟩) l.length cap ∧ ∀ j, j < l.length → w.cell? ⟨b, off + j, none⟩ = some (.int .i64 (l.getD j 0)))
theorem IntsAt.past {w w' : World} {v : Value} {l : List Int} (h : IntsAt w v l) (hb : Below w.heap.size w w') : IntsAt w' v l := by
  rcases h with h | ⟨b, off, cap, rfl, hc⟩
  · exact .inl h
  · refine .inr ⟨b, off, cap, rfl, fun j hj => ?_⟩
    exact kc _ _ hb (hc j hj)
def clockB (n : Nat) (x : Int) : Bool := decide (1 ≤ x ∧ x ≤ n)
def hasA (n : Nat) (l : List Int) : Nat → Bool
  | 0 => true
  | k + 1 => hasA n l k && clockB n (l.getD k 0)
theorem hasA_false {n : Nat} {l : List Int} : ∀ {k : Nat} (m : Nat), k ≤ m → hasA n l k = false → hasA n l m = false := by
  intro k m h e
  induction m with
  | zero => obtain rfl : k = 0 := by omega
            exact e
  | succ m ih =>
    by_cases q : k = m + 1
    · subst q; exact e
    · simp [hasA, ih (by omega)]
theorem hasA_at {n : Nat} {l : List Int} {m : Nat} (h : hasA n l m = true) (k : Nat) (hk : k < m) : 1 ≤ l.getD k 0 ∧ l.getD k 0 ≤ n := by
  induction m with
  | zero => omega
  | succ m ih =>
    simp only [hasA, Bool.and_eq_true] at h
    by_cases q : k = m
    · subst q
      simpa [clockB] using h.2
    · exact ih h.1 (by omega)
set_option maxHeartbeats 1000000 in
theorem ohas_main (n b off cap q : Nat) (l : List Int) (w : World) (hn : n ≤ 8) (hq : l.length = q) (hby : q ≤ 9223372036854775807) (hc : ∀ j, j < q → w.cell? ⟨b, off + j, none⟩ = some (.int .i64 (l.getD j 0))) :
    Calls Tryz.prog 47 #[.agg #[.int .i64 n], .slice (some ⟨b, off, none⟩) q cap] w fun e w' => e = .returned (.bool (hasA n l q)) ∧ Below w.heap.size w w' := by
  have HC : Hid (∀ w', Below w.heap.size w w' → ∀ j, j < q → w'.cell? ⟨b, off + j, none⟩ = some (.int .i64 (l.getD j 0))) := fun w' hb j hj => kc _ _ hb (hc j hj)
  have B0 := hideD (below_one w (.cells #[.int .i64 n] 75))
  clear hc hq
  go_enter Tryz.func47, Tryz.ntmps47
  go_wp2_with fail
  have c0 : (w.alloc (.cells #[.int .i64 n] 75)).cell? ⟨w.heap.size, 0, none⟩ = some (.int .i64 n) := by simp [go_sem]
  generalize w.alloc (.cells #[.int .i64 n] 75) = w1 at *
  go_loopw [9] (fun s wr => ∃ (K : Nat), K ≤ q ∧ s = .int .i64 (K : Int) ∧ Hid (hasA n l K = true) ∧ wr = w1) (fun s _ => q - (intOf s).toNat)
  case atStart => exact ⟨0, by omega, rfl, rfl, rfl⟩
  case round =>
    obtain ⟨K, hK, rfl, hA, rfl⟩ := hrel
    by_cases ck : K < q
    · have k0 : (0 : Int) ≤ (K : Int) := by omega
      have k1 : (K : Int) < (q : Int) := by omega
      have c1 := HC.out _ B0.out K ck
      have st : Hid (hasA n l (K + 1) = clockB n (l.getD K 0)) := by show _ = _; simp [hasA, hA.out]
      generalize l.getD K 0 = x at *
      by_cases x1 : x < 1
      · have st3 : Hid (hasA n l q = false) := hasA_false (k := K + 1) q (by omega) (by rw [st.out]; simp [clockB]; omega)
        clear st
        go_wp2_with fail
        go_ret
        exact ⟨by rw [st3.out]; rfl, B0.out⟩
      · by_cases x2 : (n : Int) < x
        · have st3 : Hid (hasA n l q = false) := hasA_false (k := K + 1) q (by omega) (by rw [st.out]; simp [clockB]; omega)
          clear st
          go_wp2_with fail
          go_ret
          exact ⟨by rw [st3.out]; rfl, B0.out⟩
        · have st3 : Hid (hasA n l (K + 1) = true) := by show _ = _; rw [st.out]; simp [clockB]; omega
          clear st
          go_wp2_with fail
          go_roundw
          case rel => exact ⟨K + 1, by omega, by go_num, st3, by trivial⟩
          case measure => simp [intOf]; omega
    · have eK : K = q := by omega
      subst eK
      go_wp2_with fail
      go_ret
      exact ⟨by rw [hA.out]; rfl, B0.out⟩
theorem ohas_none (n c : Nat) (ad : Option Addr) (w : World) :
    Calls Tryz.prog 47 #[.agg #[.int .i64 n], .slice ad 0 c] w fun e w' => e = .returned (.bool true) ∧ Below w.heap.size w w' := by
  have B0 := hideD (below_one w (.cells #[.int .i64 n] 75))
  go_enter Tryz.func47, Tryz.ntmps47
  go_wp2_with fail
  generalize w.alloc (.cells #[.int .i64 n] 75) = w1 at *
  go_loopw [9] (fun s wr => s = .int .i64 0 ∧ wr = w1) (fun s _ => 1)
  case atStart => exact ⟨rfl, rfl⟩
  case round =>
    obtain ⟨rfl, rfl⟩ := hrel
    go_wp2_with fail
    go_ret
    exact ⟨rfl, B0.out⟩
theorem ohas_any (n : Nat) (v : Value) (l : List Int) (w : World) (hn : n ≤ 8) (hby : l.length ≤ 9223372036854775807) (hv : IntsAt w v l) :
    Calls Tryz.prog 47 #[.agg #[.int .i64 n], v] w fun e w' => e = .returned (.bool (hasA n l l.length)) ∧ Below w.heap.size w w' := by
  rcases hv with ⟨ad, c, rfl, rfl⟩ | ⟨b, off, cap, rfl, hc⟩
  · exact ohas_none n c ad w
  · exact ohas_main n b off cap l.length l w hn rfl hby hc
theorem exactly_any (x n : Int) (w : World) (n0 : 0 ≤ n) (n1 : n ≤ 1048576) :
    Calls Tryz.prog 28 #[.int .i64 x, .int .i64 n] w fun e w' => (∃ g, e = .returned (.slice (some ⟨g, 0, none⟩) 2 2) ∧ w.heap.size ≤ g ∧ w'.cell? ⟨g, 0, none⟩ = some (.int .i64 x) ∧ w'.cell? ⟨g, 1, none⟩ = some (.int .i64 0) ∧ w'.cell? ⟨g, 2, none⟩ = some (.int .i32 (2 * n + 1)) ∧ w'.cell? ⟨g, 3, none⟩ = some (.int .i64 0) ∧ w'.cell? ⟨g, 4, none⟩ = some (.int .i64 x) ∧ w'.cell? ⟨g, 5, none⟩ = some (.int .i32 (-(2 * n) + 1))) ∧ Below w.heap.size w w' := by
  have H1 : Hid (∀ w, Calls Tryz.prog 70 #[.int .i64 x, .int .i64 0, .int .i64 n, .bool false] w fun e w' => e = .returned (.agg #[.int .i64 x, .int .i64 0, .int .i32 (2 * n + 1)]) ∧ Below w.heap.size w w') := fun w => by
    have := limitOf_any x 0 n false w
    rwa [show ofB n (!false) = 2 * n + 1 from by simp [ofB]; omega] at this
  have H2 : Hid (∀ w, Calls Tryz.prog 70 #[.int .i64 0, .int .i64 x, .int .i64 (-n), .bool false] w fun e w' => e = .returned (.agg #[.int .i64 0, .int .i64 x, .int .i32 (-(2 * n) + 1)]) ∧ Below w.heap.size w w') := fun w => by
    have := limitOf_any 0 x (-n) false w
    rwa [show ofB (-n) (!false) = -(2 * n) + 1 from by simp [ofB]; omega] at this
  have ng : wrap64 (-n) = -n := by unfold wrap64; omega
  have ng2 : IntKind.i64.wrap (-n) = -n := by rw [IntKind.wrap_i64]; omega
  go_enter Tryz.func28, Tryz.ntmps28
  go_wp2_with fail
  refine (H1.out _).mono ?_
  rintro e w1 ⟨rfl, hb1⟩
  go_wp2_with fail
  refine (H2.out _).mono ?_
  rintro e w2 ⟨rfl, hb2⟩
  have B2 := hideD (beyondD hb1 hb2)
  clear hb1 hb2 ng ng2
  go_wp2_with fail
  refine bodyPost_ret (v := .slice (some ⟨w2.heap.size, 0, none⟩) 2 2) (by simp [results, Tryz.results28, go_sem]) rfl ⟨⟨w2.heap.size, rfl, B2.out.size, ?_, ?_, ?_, ?_, ?_, ?_⟩, B2.out.alloc B2.out.size _⟩
  all_goals simp [go_sem]
def setE (n : Nat) (x k : Int) : Int := if clockB n x then (if 0 ≤ k ∧ k ≤ 1048576 then 0 else 13) else 12
theorem settable_nil (x k : Int) (w : World) :
    Calls Tryz.prog 25 #[.pointer none, .int .i64 x, .int .i64 k] w fun e w' => e = .returned (.int .i64 1) ∧ Below w.heap.size w w' := by
  go_enter Tryz.func25, Tryz.ntmps25
  go_wp2_with fail
  go_ret
  exact ⟨rfl, Below.refl _ _⟩
theorem settable_any (b n : Nat) (c : Row) (x k : Int) (w : World) (hn : n ≤ 8) (hz : ZoneAt w b n c) :
    Calls Tryz.prog 25 #[.pointer (some ⟨b, 0, none⟩), .int .i64 x, .int .i64 k] w fun e w' => e = .returned (.int .i64 (setE n x k)) ∧ Below w.heap.size w w' := by
  have HD := hideD (dimZ_any b n w hz.clocks)
  have B1 := hideD (below_one w (.cells #[.int .i64 x] 3))
  have HH : Hid (Calls Tryz.prog 47 #[.agg #[.int .i64 n], .slice (some ⟨w.heap.size, 0, none⟩) 1 1] (w.alloc (.cells #[.int .i64 x] 3)) fun e w' => e = .returned (.bool (clockB n x)) ∧ Below (w.alloc (.cells #[.int .i64 x] 3)).heap.size (w.alloc (.cells #[.int .i64 x] 3)) w') := by
    have := ohas_main n w.heap.size 0 1 1 [x] (w.alloc (.cells #[.int .i64 x] 3)) hn rfl (by omega) (fun j hj => by
      obtain rfl : j = 0 := by omega
      simp [go_sem])
    rw [show hasA n [x] 1 = clockB n x from by simp [hasA]] at this
    exact this
  clear hz
  have fin : ∀ w', Below (w.alloc (.cells #[.int .i64 x] 3)).heap.size (w.alloc (.cells #[.int .i64 x] 3)) w' → Below w.heap.size w w' := fun w' hb => beyondD B1.out hb
  have FIN := hideD fin
  clear fin B1
  go_enter Tryz.func25, Tryz.ntmps25
  go_wp2_with fail
  refine HD.out.mono ?_
  rintro e w1 ⟨rfl, rfl⟩
  go_wp2_with fail
  refine HH.out.mono ?_
  rintro e w2 ⟨rfl, hb⟩
  have B2 := hideD (FIN.out _ hb)
  clear hb FIN HH HD
  cases cb : clockB n x with
  | false =>
    go_wp2_with fail
    go_ret
    exact ⟨by simp [setE, cb], B2.out⟩
  | true =>
    by_cases k0 : k < 0
    · go_wp2_with fail
      go_ret
      exact ⟨by rw [setE, cb, if_pos rfl, if_neg (by omega)]; rfl, B2.out⟩
    · by_cases k1 : 1048576 < k
      · go_wp2_with fail
        go_ret
        exact ⟨by rw [setE, cb, if_pos rfl, if_neg (by omega)]; rfl, B2.out⟩
      · go_wp2_with fail
        go_ret
        exact ⟨by rw [setE, cb, if_pos rfl, if_pos (by omega)]; rfl, B2.out⟩
end Go.Proofs.YtfhfdpapppgfpaaGreatDoor

/-
  The contracts of ops: Reset, Free.
-/
namespace Go.Proofs.YtfhfdpapppgfpaaGreatDoor
open Go.RowKit
set_option linter.unusedVariables false
set_option maxRecDepth 100000
theorem reset_err (v : Value) (x k e : Int) (w : World) (he : (e != 0) = true) (HS : Hid (Calls Tryz.prog 25 #[v, .int .i64 x, .int .i64 k] w fun z w' => z = .returned (.int .i64 e) ∧ Below w.heap.size w w')) :
    Calls Tryz.prog 7 #[v, .int .i64 x, .int .i64 k] w fun z w' => z = errOf e ∧ Below w.heap.size w w' := by
  go_enter Tryz.func7, Tryz.ntmps7
  go_wp2_with fail
  refine HS.out.mono ?_
  rintro z w1 ⟨rfl, hb⟩
  go_wp2_with fail
  exact bodyPost_ret (v := .tuple #[.pointer none, .int .i64 e]) (by simp [results, Tryz.results7, go_sem]) rfl ⟨rfl, hb⟩
def limM (r : Mat) (i j : Nat) (v : Int) : Mat := upd r i j (min (r i j) v)
theorem limM_32 {r : Mat} (h : R32 r) {i j : Nat} {v : Int} (h0 : -2147483648 ≤ v) : R32 (limM r i j v) := h.upd (by have := (h i j).1; omega) (by have := (h i j).2; omega)
def rstM (n x : Nat) (k : Int) (r : Mat) : Nat → Mat
  | 0 => freeK x (n + 1) r
  | 1 => limM (freeK x (n + 1) r) x 0 (2 * k + 1)
  | _ => limM (limM (freeK x (n + 1) r) x 0 (2 * k + 1)) 0 x (-(2 * k) + 1)
set_option maxHeartbeats 2000000 in
theorem reset_any (b n x : Nat) (k : Int) (c : Row) (w : World) (h : n ≤ 8) (hz : ZoneAt w b n c) (hc : C32 c) (hx : x ≤ n) (hs : setE n x k = 0) (k0 : 0 ≤ k) (k1 : k ≤ 1048576) :
    Calls Tryz.prog 7 #[.pointer (some ⟨b, 0, none⟩), .int .i64 x, .int .i64 k] w fun e w' => OpsOut w' w.heap.size n e (rstM n x k (oR n c ((n + 1) * (n + 1))) 2) ∧ Below w.heap.size w w' := by
  have HS := settable_any b n c x k w h hz
  rw [hs] at HS
  have HS := hideD HS
  have HD : Hid (∀ w', Below w.heap.size w w' → _) := fun w' hb => odraft_any b n c w' h (hz.past hb)
  have H32 := hideD (oR_32 (n := n) (K := (n + 1) * (n + 1)) hc)
  have HF : Hid (∀ d r w, ODraft w d n r → _) := fun d r w hD => free_any d n x r w h (by omega) hD
  have HE : Hid (∀ w, _) := fun w => exactly_any x k w k0 k1
  have HL1 : Hid (∀ d r w, ODraft w d n r → _) := fun d r w hD => limit_any d n x 0 (2 * k + 1) r w (by omega) (by omega) hD
  have HL2 : Hid (∀ d r w, ODraft w d n r → _) := fun d r w hD => limit_any d n 0 x (-(2 * k) + 1) r w (by omega) (by omega) hD
  generalize oR n c ((n + 1) * (n + 1)) = r at *
  clear hz hc
  go_enter Tryz.func7, Tryz.ntmps7
  go_wp2_with fail
  refine HS.out.mono ?_
  rintro z w1 ⟨rfl, hb⟩
  have HD1 := hideD (HD.out _ hb)
  have hB1 := hideD hb
  clear hb HD HS
  go_wp2_with fail
  refine HD1.out.mono ?_
  rintro e w2 ⟨⟨d, rfl, hd, hD⟩, hb⟩
  have hd' : w.heap.size ≤ d := Nat.le_trans hB1.out.size hd
  have HF1 := hideD (HF.out d _ _ hD)
  have hB2 := hideD (beyondD hB1.out hb)
  clear hb hD HD1 HF hB1 hd
  go_wp2_with fail
  refine HF1.out.mono ?_
  rintro e w3 ⟨rfl, hD, hb, -⟩
  have hD3 := hideD hD
  have hB3 := hideD (hB2.out.trans (hb.mono hd'))
  clear hb hD HF1 hB2
  go_wp2_with fail
  refine (HE.out _).mono ?_
  rintro e w4 ⟨⟨g, rfl, hg, g0, g1, g2, g3, g4, g5⟩, hb⟩
  have hD4 := hideD (hD3.out.past hb)
  have hB4 := hideD (beyondD hB3.out hb)
  have hg' : Hid (d < g) := by have := hD3.out.lt; show _ < _; omega
  have gl : Hid (g < w4.heap.size) := World.block_lt_of_cell? _ _ g0
  clear hb hD3 hB3 HE hg
  have e0 : ((x : Int) = (x : Int)) := rfl
  generalize hy : 2 * k + 1 = y at *
  generalize hu : -(2 * k) + 1 = u at *
  have HY := hideD hy
  have HU := hideD hu
  clear hy hu e0
  go_wp2_with fail
  go_loopw [28] (fun s wr => ∃ (K : Nat), K ≤ 2 ∧ s = .int .i64 (K : Int) ∧ Hid (ODraft wr d n (rstM n x k r K)) ∧ Hid (Below w.heap.size w wr) ∧ Hid (∀ p, p.block = g → wr.cell? p = w4.cell? p)) (fun s _ => 2 - (intOf s).toNat)
  case atStart => exact ⟨0, by omega, rfl, hD4, hB4, fun p hp => rfl⟩
  case round =>
    obtain ⟨K, hK, rfl, hD, hB, hG⟩ := hrel
    clear hD4 hB4
    have f0 := (hG.out ⟨g, 0, none⟩ rfl).trans g0
    have f1 := (hG.out ⟨g, 1, none⟩ rfl).trans g1
    have f2 := (hG.out ⟨g, 2, none⟩ rfl).trans g2
    have f3 := (hG.out ⟨g, 3, none⟩ rfl).trans g3
    have f4 := (hG.out ⟨g, 4, none⟩ rfl).trans g4
    have f5 := (hG.out ⟨g, 5, none⟩ rfl).trans g5
    obtain rfl | rfl | rfl : K = 0 ∨ K = 1 ∨ K = 2 := by omega
    · have B5 := below_one wr (.cells #[.int .i64 x, .int .i64 0, .int .i32 y] 47)
      have HL := hideD (HL1.out d _ _ (hD.out.past B5))
      have hB5 := hideD (beyondD hB.out B5)
      have O5 := hideD (OnlyB.below (d := d) B5)
      clear B5
      go_wp2_with fail
      refine HL.out.mono ?_
      rintro e w5 ⟨rfl, hD5, hb, ho⟩
      have hD6 := hideD hD5
      have hB6 := hideD (hB5.out.trans (hb.mono hd'))
      have hG6 : Hid (∀ p, p.block = g → w5.cell? p = w4.cell? p) := fun p hp => ((O5.out.trans ho).cell (by have := hG.out; have q := World.block_lt_of_cell? _ _ f0; rw [hp]; exact q) (by have := hg'.out; omega)).trans (hG.out p hp)
      clear hD5 hb ho HL hB5 O5 hD hB hG
      go_wp2_with fail
      go_roundw
      case rel => exact ⟨1, by omega, rfl, by rw [← HY.out] at hD6; exact hD6, hB6, hG6⟩
      case measure => simp [intOf]
    · have B5 := below_one wr (.cells #[.int .i64 0, .int .i64 x, .int .i32 u] 47)
      have HL := hideD (HL2.out d _ _ (hD.out.past B5))
      have hB5 := hideD (beyondD hB.out B5)
      have O5 := hideD (OnlyB.below (d := d) B5)
      clear B5
      go_wp2_with fail
      refine HL.out.mono ?_
      rintro e w5 ⟨rfl, hD5, hb, ho⟩
      have hD6 := hideD hD5
      have hB6 := hideD (hB5.out.trans (hb.mono hd'))
      have hG6 : Hid (∀ p, p.block = g → w5.cell? p = w4.cell? p) := fun p hp => ((O5.out.trans ho).cell (by have q := World.block_lt_of_cell? _ _ f0; rw [hp]; exact q) (by have := hg'.out; omega)).trans (hG.out p hp)
      clear hD5 hb ho HL hB5 O5 hD hB hG
      go_wp2_with fail
      go_roundw
      case rel => exact ⟨2, by omega, rfl, by rw [← HU.out] at hD6; exact hD6, hB6, hG6⟩
      case measure => simp [intOf]
    · have HZ := hideD (ozone_out d n w.heap.size _ wr h hD.out (limM_32 (limM_32 (freeK_32 H32.out _) (by omega)) (by omega)) hB.out.size)
      go_wp2_with fail
      refine HZ.out.mono ?_
      rintro e w2 ⟨p, kk, rfl, ho, hb⟩
      go_wp2_with fail
      exact bodyPost_ret (v := .tuple #[.pointer p, .int .i64 kk]) (by simp [results, Tryz.results7, go_sem]) rfl ⟨ho.out, beyondD hB.out hb.out⟩
end Go.Proofs.YtfhfdpapppgfpaaGreatDoor

/-
  The contract of ops.Constrain.
-/
namespace Go.Proofs.YtfhfdpapppgfpaaGreatDoor
open Go.RowKit
set_option linter.unusedVariables false
set_option maxRecDepth 100000
def bndB (n : Nat) (L : Lims) (k : Nat) : Bool := decide (0 ≤ L.i k ∧ L.i k ≤ n ∧ 0 ≤ L.j k ∧ L.j k ≤ n)
def bndA (n : Nat) (L : Lims) : Nat → Bool
  | 0 => true
  | k + 1 => bndA n L k && bndB n L k
def rgtA (L : Lims) : Nat → Bool
  | 0 => true
  | k + 1 => rgtA L k && rightB (L.b k)
theorem bndA_false {n : Nat} {L : Lims} : ∀ {k : Nat} (m : Nat), k ≤ m → bndA n L k = false → bndA n L m = false := by
  intro k m h e
  induction m with
  | zero => obtain rfl : k = 0 := by omega
            exact e
  | succ m ih =>
    by_cases q : k = m + 1
    · subst q; exact e
    · simp [bndA, ih (by omega)]
theorem bndA_at {n : Nat} {L : Lims} {m : Nat} (h : bndA n L m = true) (k : Nat) (hk : k < m) : bndB n L k = true := by
  induction m with
  | zero => omega
  | succ m ih =>
    simp only [bndA, Bool.and_eq_true] at h
    by_cases q : k = m
    · subst q
      exact h.2
    · exact ih h.1 (by omega)
theorem rgtA_false {L : Lims} : ∀ {k : Nat} (m : Nat), k ≤ m → rgtA L k = false → rgtA L m = false := by
  intro k m h e
  induction m with
  | zero => obtain rfl : k = 0 := by omega
            exact e
  | succ m ih =>
    by_cases q : k = m + 1
    · subst q; exact e
    · simp [rgtA, ih (by omega)]
theorem rgtA_at {L : Lims} {m : Nat} (h : rgtA L m = true) (k : Nat) (hk : k < m) : rightB (L.b k) = true := by
  induction m with
  | zero => omega
  | succ m ih =>
    simp only [rgtA, Bool.and_eq_true] at h
    by_cases q : k = m
    · subst q
      exact h.2
    · exact ih h.1 (by omega)
def limK (L : Lims) : Nat → Mat → Mat
  | 0, r => r
  | k + 1, r => limM (limK L k r) (L.i k).toNat (L.j k).toNat (L.b k)
theorem limK_32 {L : Lims} {r : Mat} (h : R32 r) : ∀ (K : Nat), (∀ k, k < K → -2147483648 ≤ L.b k) → R32 (limK L K r)
  | 0, _ => h
  | K + 1, hb => limM_32 (limK_32 h K fun k hk => hb k (by omega)) (hb K (by omega))
/-- What Constrain tells: an error, or the draft's zone. -/
def ConOut (w' : World) (B n : Nat) (e : Ending) (L : Lims) (r : Mat) : Prop :=
  (bndA n L L.q = false ∧ e = errOf 12) ∨ (bndA n L L.q = true ∧ rgtA L L.q = false ∧ e = errOf 2) ∨ (bndA n L L.q = true ∧ rgtA L L.q = true ∧ OpsOut w' B n e (limK L L.q r))
theorem con_nil (v : Value) (w : World) : Calls Tryz.prog 21 #[.pointer none, v] w fun e w' => e = errOf 1 ∧ w' = w := by
  go_enter Tryz.func21, Tryz.ntmps21
  go_wp2_with fail
  exact bodyPost_ret (v := .tuple #[.pointer none, .int .i64 1]) (by simp [results, Tryz.results21, go_sem]) rfl ⟨rfl, rfl⟩
set_option maxHeartbeats 4000000 in
theorem con_main (b n cb off cap : Nat) (c : Row) (L : Lims) (w : World) (h : n ≤ 8) (hz : ZoneAt w b n c) (hc : C32 c) (hR : LimRow w cb off L) (hcb : cb < w.heap.size) (hi : ∀ k, k < L.q → -2147483648 ≤ L.b k ∧ L.b k ≤ 2147483647) (hq : L.q ≤ 9223372036854775807) :
    Calls Tryz.prog 21 #[.pointer (some ⟨b, 0, none⟩), .slice (some ⟨cb, off, none⟩) L.q cap] w fun e w' => ConOut w' w.heap.size n e L (oR n c ((n + 1) * (n + 1))) ∧ Below w.heap.size w w' := by
  have HD := hideD (odraft_any b n c w h hz)
  have H32 := hideD (oR_32 (n := n) (K := (n + 1) * (n + 1)) hc)
  generalize oR n c ((n + 1) * (n + 1)) = r at *
  have HR := hideD hR
  have HI := hideD hi
  have HB : Hid (∀ (i j x : Int) w, _) := fun i j x w => bounds_any n i j x w
  have HL : Hid (∀ (d i j : Nat) (x : Int) r w, i ≤ 8 → j ≤ 8 → ODraft w d n r → _) := fun d i j x r w i8 j8 hD => limit_any d n i j x r w i8 j8 hD
  have HG : Hid (∀ (x : Int) w, _) := fun x w => right_any x w
  have HF1 : Hid (∀ w' e, bndA n L L.q = false → e = errOf 12 → ConOut w' w.heap.size n e L r) := fun w' e h1 h2 => .inl ⟨h1, h2⟩
  have HF2 : Hid (∀ w' e, bndA n L L.q = true → rgtA L L.q = false → e = errOf 2 → ConOut w' w.heap.size n e L r) := fun w' e h1 h2 h3 => .inr (.inl ⟨h1, h2, h3⟩)
  have HF3 : Hid (∀ w' e, bndA n L L.q = true → rgtA L L.q = true → OpsOut w' w.heap.size n e (limK L L.q r) → ConOut w' w.heap.size n e L r) := fun w' e h1 h2 h3 => .inr (.inr ⟨h1, h2, h3⟩)
  clear hz hc hR hi
  have HQ : Hid (L.q = L.q) := rfl
  generalize eq : L.q = q at *
  have EQ := hideD eq
  clear eq HQ
  have q1 : (q : Int) ≤ 9223372036854775807 := by omega
  go_enter Tryz.func21, Tryz.ntmps21
  go_wp2_with fail
  refine HD.out.mono ?_
  rintro e w1 ⟨⟨d, rfl, hd, hD⟩, hb⟩
  have hD1 := hideD hD
  have hB1 := hideD hb
  clear hD hb HD
  go_wp2_with fail
  go_loopw [17] (fun s wr => ∃ (K : Nat), K ≤ q ∧ s = .int .i64 (K : Int) ∧ Hid (bndA n L K = true) ∧ Hid (ODraft wr d n r) ∧ Hid (Below w.heap.size w wr)) (fun s _ => q - (intOf s).toNat)
  case atStart => exact ⟨0, by omega, rfl, rfl, hD1, hB1⟩
  case round =>
    obtain ⟨K, hK, rfl, hA, hD, hB⟩ := hrel
    clear hD1 hB1
    by_cases ck : K < q
    · have k0 : (0 : Int) ≤ (K : Int) := by omega
      have k1 : (K : Int) < (q : Int) := by omega
      obtain ⟨c0, c1, c2⟩ := (HR.out.later hB.out hcb) K (by have := EQ.out; omega)
      have st : Hid (bndA n L (K + 1) = bndB n L K) := by show _ = _; simp [bndA, hA.out]
      have st2 : Hid (bndB n L K = decide (0 ≤ L.i K ∧ L.i K ≤ n ∧ 0 ≤ L.j K ∧ L.j K ≤ n)) := rfl
      generalize L.i K = x at *
      generalize L.j K = y at *
      generalize L.b K = z at *
      have q0 := hD.out.clocks
      have B5 := hideD (below_one wr (.cells #[.int .i64 x, .int .i64 y, .int .i32 z] 47))
      go_upto_region 7 with (fail)
      have c3 : (wr.alloc (.cells #[.int .i64 x, .int .i64 y, .int .i32 z] 47)).cell? ⟨wr.heap.size, 0, none⟩ = some (.int .i64 x) := by simp [go_sem]
      have c4 : (wr.alloc (.cells #[.int .i64 x, .int .i64 y, .int .i32 z] 47)).cell? ⟨wr.heap.size, 1, none⟩ = some (.int .i64 y) := by simp [go_sem]
      have c5 : (wr.alloc (.cells #[.int .i64 x, .int .i64 y, .int .i32 z] 47)).cell? ⟨wr.heap.size, 2, none⟩ = some (.int .i32 z) := by simp [go_sem]
      have q2 := kc ⟨d, 0, none⟩ _ B5.out q0
      have hD5 := hideD (hD.out.past B5.out)
      have hB5 := hideD (beyondD hB.out B5.out)
      have HBK := hideD (fun w => HB.out x y z w)
      generalize wr.alloc (.cells #[.int .i64 x, .int .i64 y, .int .i32 z] 47) = w5 at *
      generalize wr.heap.size = bx at *
      clear hD hB q0 B5 c0 c1 c2
      have B6 := Below.refl w5.heap.size w5
      cases ct : decide (0 ≤ x ∧ x ≤ (n : Int) ∧ 0 ≤ y ∧ y ≤ (n : Int)) with
      | false =>
        rw [ct] at HBK st2
        have st3 : Hid (bndA n L q = false) := bndA_false (k := K + 1) q (by omega) (by rw [st.out, st2.out])
        clear st st2
        go_region_held3 (fun w2 => w2.cell? ⟨d, 0, none⟩ = some (.int .i64 n) ∧ w2.cell? ⟨bx, 0, none⟩ = some (.int .i64 x) ∧ w2.cell? ⟨bx, 1, none⟩ = some (.int .i64 y) ∧ w2.cell? ⟨bx, 2, none⟩ = some (.int .i32 z))
          (first | (refine ⟨?_, ?_, ?_, ?_⟩ <;> with_reducible assumption) | go_keep)
          (first | (go_at_call 55; refine (HBK.out _).mono ?_; rintro e' w6 ⟨rfl, hb⟩; have s0 := kc ⟨d, 0, none⟩ _ hb (by first | assumption | simp [go_sem, *]); have s1 := kc ⟨bx, 0, none⟩ _ hb (by first | assumption | simp [go_sem, *]); have s2 := kc ⟨bx, 1, none⟩ _ hb (by first | assumption | simp [go_sem, *]); have s3 := kc ⟨bx, 2, none⟩ _ hb (by first | assumption | simp [go_sem, *]); have s4 := beyondD (w := w5) (by first | assumption | (apply Below.drew; assumption)) hb))
        all_goals
          go_wp2_with fail
          exact bodyPost_ret (v := .tuple #[.pointer none, .int .i64 12]) (by simp [results, Tryz.results21, go_sem]) rfl ⟨HF1.out _ _ st3.out rfl, beyondD hB5.out s4⟩
      | true =>
        rw [ct] at HBK st2
        have st3 : Hid (bndA n L (K + 1) = true) := st.out.trans st2.out
        clear st st2
        go_region_held3 (fun w2 => w2.cell? ⟨d, 0, none⟩ = some (.int .i64 n) ∧ w2.cell? ⟨bx, 0, none⟩ = some (.int .i64 x) ∧ w2.cell? ⟨bx, 1, none⟩ = some (.int .i64 y) ∧ w2.cell? ⟨bx, 2, none⟩ = some (.int .i32 z))
          (first | (refine ⟨?_, ?_, ?_, ?_⟩ <;> with_reducible assumption) | go_keep)
          (first | (go_at_call 55; refine (HBK.out _).mono ?_; rintro e' w6 ⟨rfl, hb⟩; have s0 := kc ⟨d, 0, none⟩ _ hb (by first | assumption | simp [go_sem, *]); have s1 := kc ⟨bx, 0, none⟩ _ hb (by first | assumption | simp [go_sem, *]); have s2 := kc ⟨bx, 1, none⟩ _ hb (by first | assumption | simp [go_sem, *]); have s3 := kc ⟨bx, 2, none⟩ _ hb (by first | assumption | simp [go_sem, *]); have s4 := beyondD (w := w5) (by first | assumption | (apply Below.drew; assumption)) hb))
        all_goals
          have hD7 := hideD (hD5.out.past s4)
          have hB7 := hideD (beyondD hB5.out s4)
          clear hb s0 s1 s2 s3 s4 hD5 hB5 B6 q2 c3 c4 c5
          go_wp2_with fail
          go_roundw
          case rel => exact ⟨K + 1, by omega, by go_num, st3, hD7, hB7⟩
          case measure => simp [intOf]; omega
    · have eK : K = q := by omega
      have hA' : Hid (bndA n L q = true) := by rw [← eK]; exact hA
      clear hA eK
      go_wp2_with fail
      go_loopw [31] (fun s wr => ∃ (K : Nat), K ≤ q ∧ s = .int .i64 (K : Int) ∧ Hid (rgtA L K = true) ∧ Hid (ODraft wr d n (limK L K r)) ∧ Hid (Below w.heap.size w wr)) (fun s _ => q - (intOf s).toNat)
      case atStart => exact ⟨0, by omega, rfl, rfl, hD, hB⟩
      case round =>
        obtain ⟨J, hJ, rfl, hG, hD, hB⟩ := hrel
        by_cases cj : J < q
        · have k0 : (0 : Int) ≤ (J : Int) := by omega
          have k1 : (J : Int) < (q : Int) := by omega
          obtain ⟨c0, c1, c2⟩ := (HR.out.later hB.out hcb) J (by have := EQ.out; omega)
          have st : Hid (rgtA L (J + 1) = rightB (L.b J)) := by show _ = _; simp [rgtA, hG.out]
          have nx : Hid (limK L (J + 1) r = limM (limK L J r) (L.i J).toNat (L.j J).toNat (L.b J)) := rfl
          have bb := bndA_at hA'.out J cj
          simp only [bndB, decide_eq_true_eq] at bb
          obtain ⟨x, hx⟩ := Int.eq_ofNat_of_zero_le bb.1
          obtain ⟨y, hy⟩ := Int.eq_ofNat_of_zero_le bb.2.2.1
          have x8 : x ≤ 8 := by omega
          have y8 : y ≤ 8 := by omega
          rw [hx] at c0 nx
          rw [hy] at c1 nx
          clear bb hx hy
          generalize L.b J = z at *
          have HGJ := hideD (fun w => HG.out z w)
          have B5 := hideD (below_one wr (.cells #[.int .i64 x, .int .i64 y, .int .i32 z] 47))
          have hD5 := hideD (hD.out.past B5.out)
          have hB5 := hideD (beyondD hB.out B5.out)
          clear hD hB B5
          cases cr : rightB z with
          | false =>
            rw [cr] at HGJ st
            have st3 : Hid (rgtA L q = false) := rgtA_false (k := J + 1) q (by omega) st.out
            clear st
            go_wp2_with fail
            refine (HGJ.out _).mono ?_
            rintro e w6 ⟨rfl, rfl⟩
            go_wp2_with fail
            exact bodyPost_ret (v := .tuple #[.pointer none, .int .i64 2]) (by simp [results, Tryz.results21, go_sem]) rfl ⟨HF2.out _ _ hA'.out st3.out rfl, hB5.out⟩
          | true =>
            rw [cr] at HGJ st
            have HLJ := hideD (HL.out d x y z _ _ x8 y8 hD5.out)
            go_wp2_with fail
            refine (HGJ.out _).mono ?_
            rintro e w6 ⟨rfl, rfl⟩
            go_wp2_with fail
            refine HLJ.out.mono ?_
            rintro e w7 ⟨rfl, hD7, hb7, -⟩
            have hD8 : Hid (ODraft w7 d n (limK L (J + 1) r)) := by show ODraft _ _ _ _; rw [nx.out]; exact hD7
            have hB8 := hideD (hB5.out.trans (hb7.mono hd))
            clear hD7 hb7 hD5 hB5 HLJ nx c0 c1 c2
            go_wp2_with fail
            go_roundw
            case rel => exact ⟨J + 1, by omega, by go_num, st, hD8, hB8⟩
            case measure => simp [intOf]; omega
        · have eJ : J = q := by omega
          subst eJ
          have HZ := hideD (ozone_out d n w.heap.size _ wr h hD.out (limK_32 H32.out J (fun k hk => (HI.out k (by have := EQ.out; omega)).1)) hB.out.size)
          go_wp2_with fail
          refine HZ.out.mono ?_
          rintro e w2 ⟨p, kk, rfl, ho, hb⟩
          go_wp2_with fail
          exact bodyPost_ret (v := .tuple #[.pointer p, .int .i64 kk]) (by simp [results, Tryz.results21, go_sem]) rfl ⟨HF3.out _ _ hA'.out hG.out ho.out, beyondD hB.out hb.out⟩
end Go.Proofs.YtfhfdpapppgfpaaGreatDoor

/-
  The contract of dbm's Print.
-/
namespace Go.Proofs.YtfhfdpapppgfpaaGreatDoor
open Go.RowKit Go.Shelf
set_option linter.unusedVariables false
set_option maxRecDepth 100000
def tellsB (i j : Nat) (b : Int) : Bool := !(i == j) && !(b == 2147483647) && (!(i == 0) || decide (b < 1))
theorem tells_any (i j : Nat) (b : Int) (w : World) :
    Calls Tryz.prog 62 #[.int .i64 i, .int .i64 j, .int .i32 b] w fun e w' => e = .returned (.bool (tellsB i j b)) ∧ w' = w := by
  by_cases h1 : i = j
  · have e : tellsB i j b = false := by simp [tellsB, h1]
    rw [e]
    clear e
    have t1 : ((i : Int) != (j : Int)) = false := by simp [h1]
    go_enter Tryz.func62, Tryz.ntmps62
    go_wp2_with fail
    go_ret
    exact ⟨rfl, rfl⟩
  · have t1 : ((i : Int) != (j : Int)) = true := by simp; omega
    by_cases h2 : b = 2147483647
    · have e : tellsB i j b = false := by simp [tellsB, h2]
      rw [e]
      clear e
      subst h2
      go_enter Tryz.func62, Tryz.ntmps62
      go_wp2_with fail
      go_ret
      exact ⟨rfl, rfl⟩
    · have t2 : (b != 2147483647) = true := by simpa using h2
      by_cases h3 : i = 0
      · have e : tellsB i j b = decide (b < 1) := by simp [tellsB, h2, h3]; intro hj; omega
        rw [e]
        clear e
        subst h3
        by_cases h4 : b < 1
        · go_enter Tryz.func62, Tryz.ntmps62
          go_wp2_with fail
          go_ret
          exact ⟨by simp [h4]; omega, rfl⟩
        · go_enter Tryz.func62, Tryz.ntmps62
          go_wp2_with fail
          go_ret
          exact ⟨by simp [h4], rfl⟩
      · have e : tellsB i j b = true := by simp [tellsB, h1, h2, h3]
        rw [e]
        clear e
        have t3 : ((i : Int) != 0) = true := by simp; omega
        go_enter Tryz.func62, Tryz.ntmps62
        go_wp2_with fail
        go_ret
        exact ⟨rfl, rfl⟩
def termS (i j : Nat) (b : Int) : List UInt8 := [32, 120] ++ Lib.itoa i ++ [45, 120] ++ Lib.itoa j ++ printS b
def headS (n : Nat) : List UInt8 := Lib.itoa n ++ [58]
def accS (n : Nat) (c : Row) : Nat → List UInt8
  | 0 => headS n
  | K + 1 => if tellsB (K / (n + 1)) (K % (n + 1)) (c K) = true then accS n c K ++ termS (K / (n + 1)) (K % (n + 1)) (c K) else accS n c K
def printZ (n : Nat) (c : Row) : List UInt8 := if c 0 < 1 then headS n ++ [32, 101, 109, 112, 116, 121] else accS n c ((n + 1) * (n + 1))
theorem itoa_len (i : Nat) (h : i ≤ 100) : (Lib.itoa (i : Int)).length ≤ 21 := Lib.itoa_length_le _ (by omega) (by omega)
theorem printS_len (b : Int) : (printS b).length ≤ 23 := by
  unfold printS
  split
  · simp
  · split
    · rename_i f
      have l := (fin_iff b).1 f
      have : (Lib.itoa (valV b)).length ≤ 21 := Lib.itoa_length_le _ (by simp [valV, f]; omega) (by simp [valV, f]; omega)
      split
      · simp; omega
      · simp; omega
    · simp
theorem termS_len (i j : Nat) (b : Int) (hi : i ≤ 100) (hj : j ≤ 100) : (termS i j b).length ≤ 100 := by
  have := itoa_len i hi
  have := itoa_len j hj
  have := printS_len b
  simp [termS]
  omega
theorem accS_len (n : Nat) (c : Row) (h : n ≤ 8) : ∀ K, K ≤ 81 → (accS n c K).length ≤ 100 * K + 100
  | 0, _ => by have := itoa_len n (by omega); simp [accS, headS]; omega
  | K + 1, hK => by
    have ih := accS_len n c h K (by omega)
    have d1 : K / (n + 1) ≤ 100 := Nat.le_trans (Nat.div_le_self _ _) (by omega)
    have d2 : K % (n + 1) ≤ 100 := Nat.le_trans (Nat.mod_le _ _) (by omega)
    have := termS_len (K / (n + 1)) (K % (n + 1)) (c K) d1 d2
    unfold accS
    split
    · rw [List.length_append]; omega
    · omega
theorem builder_past {T e : TypeId} {B b : Nat} {bs : List Value} {w w' : World} (h : Lib.IsBuilder T e B b bs w) (hb : Below w.heap.size w w') : Lib.IsBuilder T e B b bs w' := by
  have one : ∀ p, Lib.BuilderAt T e B b p bs w → Lib.BuilderAt T e B b p bs w' := fun p k => by
    have hl := k.lt
    obtain ⟨h1, v, h2, h3, h4⟩ := k
    exact ⟨h1, v, (hb.block b hl).trans h2, own_past h3 hb, h4⟩
  rcases h with h | h
  · exact .inl (one _ h)
  · exact .inr (one _ h)
theorem size_mk (l : List UInt8) : (⟨l.toArray⟩ : ByteArray).size = l.length := by simp [ByteArray.size]
theorem byte_len (l : List UInt8) : (Lib.byteCells l).length = l.length := by simp [Lib.byteCells]
theorem byte_app (a b : List UInt8) : Lib.byteCells (a ++ b) = Lib.byteCells a ++ Lib.strCells ⟨b.toArray⟩ := by simp [Lib.byteCells, Lib.strCells]
theorem print_nil (w : World) : Calls Tryz.prog 22 #[.pointer none] w fun e w' => e = .returned (.string ⟨#[]⟩) ∧ w' = w := by
  go_enter Tryz.func22, Tryz.ntmps22
  go_wp2_with fail
  go_ret
  exact ⟨rfl, rfl⟩
set_option maxHeartbeats 4000000 in
theorem printZ_any (zb n : Nat) (c : Row) (w : World) (h : n ≤ 8) (hz : ZoneAt w zb n c) (ht : Pow w) :
    Calls Tryz.prog 22 #[.pointer (some ⟨zb, 0, none⟩)] w fun e w' => e = .returned (.string ⟨(printZ n c).toArray⟩) ∧ Below w.heap.size w w' := by
  have l0 : -9223372036854775808 ≤ (n : Int) := by omega
  have l1 : (n : Int) ≤ 9223372036854775807 := by omega
  have HI : Hid (∀ w, Pow w → Calls Tryz.prog 57 #[.int .i64 n] w fun e w' => e = .returned (.string ⟨(Lib.itoa n).toArray⟩) ∧ Below w.heap.size w w') := fun w hp => (Go.Proofs.Tryz.strconv_Itoa _ l0 l1 _ hp).mono (by rintro e w' ⟨rfl, k, os, rfl⟩; exact ⟨rfl, Lib.below_grow _ _ (Nat.le_refl _) _ _⟩)
  have hl := itoa_len n (by omega)
  have hc0 := hz.clocks
  have HZ := hideD hz
  have HP := hideD ht
  have HH : Hid (∀ w', Below w.heap.size w w' → Calls Tryz.prog 58 #[.pointer (some ⟨zb, 0, none⟩)] w' fun e w'' => e = .returned (.bool (decide (c 0 < 1))) ∧ Below w'.heap.size w' w'') := fun w' hb => hollow_any zb n c w' h (hz.past hb)
  clear hz ht
  go_enter Tryz.func22, Tryz.ntmps22
  go_wp2_with fail
  refine (HI.out _ HP.out).mono ?_
  rintro e w1 ⟨rfl, hb1⟩
  have B1 := hideD hb1
  have HH1 := hideD (HH.out _ hb1)
  clear hb1 HI HH hc0
  have eh : (⟨(Lib.itoa (n : Int)).toArray⟩ : ByteArray) ++ (⟨#[58]⟩ : ByteArray) = ⟨(headS n).toArray⟩ := str_cat _ [58]
  have hl2 : (headS n).length ≤ 22 := by simp [headS]; omega
  by_cases ce : c 0 < 1
  · rw [decide_eq_true ce] at HH1
    have ep : (⟨(headS n).toArray⟩ : ByteArray) ++ (⟨#[32, 101, 109, 112, 116, 121]⟩ : ByteArray) = ⟨(printZ n c).toArray⟩ := by rw [printZ, if_pos ce]; exact str_cat _ [32, 101, 109, 112, 116, 121]
    go_wp2_with fail
    refine HH1.out.mono ?_
    rintro e w2 ⟨rfl, hb2⟩
    go_wp2_with fail
    go_ret
    exact ⟨rfl, beyondD B1.out hb2⟩
  · rw [decide_eq_false ce] at HH1
    have EP : Hid (printZ n c = accS n c ((n + 1) * (n + 1))) := by show _ = _; rw [printZ, if_neg ce]
    have hm81 : (n + 1) * (n + 1) ≤ 81 := Nat.mul_le_mul (show n + 1 ≤ 9 by omega) (show n + 1 ≤ 9 by omega)
    have HU : Hid (∀ w', Below w.heap.size w w' → Calls Tryz.prog 60 #[.pointer (some ⟨zb, 0, none⟩)] w' fun e w'' => e = .returned (.slice (some ⟨zb, 1, none⟩) ((n + 1) * (n + 1)) 81) ∧ Below w'.heap.size w' w'') := fun w' hb => used_any zb n w' h (HZ.out.past hb).clocks
    have HQ : Hid (∀ k, k < (n + 1) * (n + 1) → k / (n + 1) ≤ n ∧ k % (n + 1) ≤ n) := fun k hk => ⟨by have := Nat.div_lt_of_lt_mul hk; omega, by have := Nat.mod_lt k (show 0 < n + 1 by omega); omega⟩
    generalize (n + 1) * (n + 1) = m at *
    have m1 : (m : Int) ≤ 81 := by omega
    go_wp2_with fail
    refine HH1.out.mono ?_
    rintro e w2 ⟨rfl, hb2⟩
    have B2 := hideD (beyondD B1.out hb2)
    have I0 := Lib.fresh_isBuilder 100 5 w2
    have B3 := hideD (B2.out.alloc B2.out.size (.cells #[.pointer none, .slice none 0 0] 100))
    have HW := hideD (Go.Proofs.Tryz.writeString _ _ _ ⟨(headS n).toArray⟩ _ I0 (by rw [size_mk]; simp; omega) (by simp))
    have sz2 := hideD B2.out.size
    clear hb2 HH1 B1 I0 B2
    go_wp2_with fail
    refine HW.out.mono ?_
    rintro e w3 ⟨rfl, hI, hb3⟩
    have I3 : Hid (Lib.IsBuilder 100 5 w2.heap.size w2.heap.size (Lib.byteCells (accS n c 0)) w3) := .inr (by
      have e : Lib.byteCells (accS n c 0) = [] ++ Lib.strCells ⟨(headS n).toArray⟩ := by simp [accS, Lib.byteCells, Lib.strCells]
      rw [e]; exact hI)
    have B4 := hideD (B3.out.trans (hb3.mono sz2.out))
    have HU1 := hideD (HU.out _ B4.out)
    have lt3 := hideD (show w2.heap.size < w3.heap.size from hI.lt)
    clear hI hb3 HW B3 HU
    generalize w2.heap.size = bb at *
    go_wp2_with fail
    refine HU1.out.mono ?_
    rintro e w4 ⟨rfl, hb4⟩
    have I4 := hideD (builder_past I3.out hb4)
    have B5 := hideD (beyondD B4.out hb4)
    have sz4 := hideD (show bb < w4.heap.size from Nat.lt_of_lt_of_le lt3.out hb4.size)
    clear hb4 I3 B4 HU1 lt3 eh hl2 hl
    go_wp2_with fail
    go_loopw [32] (fun s wr => ∃ (K : Nat), K ≤ m ∧ s = .int .i64 (K : Int) ∧ Hid (Lib.IsBuilder 100 5 bb bb (Lib.byteCells (accS n c K)) wr) ∧ Hid (Below w.heap.size w wr) ∧ Hid (bb < wr.heap.size)) (fun s _ => m - (intOf s).toNat)
    case atStart => exact ⟨0, by omega, rfl, I4, B5, sz4⟩
    case round =>
      obtain ⟨K, hK, rfl, hI, hB, hS⟩ := hrel
      clear I4 B5 sz4
      by_cases ck : K < m
      · have k0 : (0 : Int) ≤ (K : Int) := by omega
        have k1 : (K : Int) < (m : Int) := by omega
        have k2 : (K : Int) < 81 := by omega
        have c0 := (HZ.out.past hB.out).cell K (by omega)
        have q0 := (HZ.out.past hB.out).clocks
        obtain ⟨i1, j1⟩ := HQ.out K ck
        have HPl : Hid (∀ w, Calls Tryz.prog 61 #[.agg #[.int .i64 n], .int .i64 K] w fun e w' => e = .returned (.tuple #[.int .i64 ((K / (n + 1) : Nat) : Int), .int .i64 ((K % (n + 1) : Nat) : Int)]) ∧ Below w.heap.size w w') := fun w => place_any n K w h (by omega)
        have nx : Hid (accS n c (K + 1) = if tellsB (K / (n + 1)) (K % (n + 1)) (c K) = true then accS n c K ++ termS (K / (n + 1)) (K % (n + 1)) (c K) else accS n c K) := rfl
        have AL := hideD (accS_len n c h K (by omega))
        generalize K / (n + 1) = i at *
        generalize K % (n + 1) = j at *
        generalize c K = x at *
        have HT := hideD (fun w => tells_any i j x w)
        go_wp2_with fail
        refine (HPl.out _).mono ?_
        rintro e w5 ⟨rfl, hb5⟩
        have I5 := hideD (builder_past hI.out hb5)
        have B6 := hideD (beyondD hB.out hb5)
        have S5 := hideD (show bb < w5.heap.size from Nat.lt_of_lt_of_le hS.out hb5.size)
        clear hb5 hI hB hS HPl c0 q0
        cases ct : tellsB i j x with
        | false =>
          rw [ct] at HT nx
          have nx2 : Hid (accS n c (K + 1) = accS n c K) := by show _ = _; rw [nx.out]; rfl
          rw [← nx2.out] at I5
          go_wp2_with fail
          refine (HT.out _).mono ?_
          rintro e w6 ⟨rfl, rfl⟩
          go_wp2_with fail
          go_roundw
          case rel => exact ⟨K + 1, by omega, by go_num, I5, B6, S5⟩
          case measure => simp [intOf]; omega
        | true =>
          rw [ct] at HT nx
          have nx2 : Hid (accS n c (K + 1) = accS n c K ++ termS i j x) := by show _ = _; rw [nx.out]; rfl
          clear nx
          have TL := hideD (termS_len i j x (by omega) (by omega))
          have HIi : Hid (∀ w, Pow w → Calls Tryz.prog 57 #[.int .i64 i] w fun e w' => e = .returned (.string ⟨(Lib.itoa i).toArray⟩) ∧ Below w.heap.size w w') := fun w hp => (Go.Proofs.Tryz.strconv_Itoa _ (by omega) (by omega) _ hp).mono (by rintro e w' ⟨rfl, k, os, rfl⟩; exact ⟨rfl, Lib.below_grow _ _ (Nat.le_refl _) _ _⟩)
          have HIj : Hid (∀ w, Pow w → Calls Tryz.prog 57 #[.int .i64 j] w fun e w' => e = .returned (.string ⟨(Lib.itoa j).toArray⟩) ∧ Below w.heap.size w w') := fun w hp => (Go.Proofs.Tryz.strconv_Itoa _ (by omega) (by omega) _ hp).mono (by rintro e w' ⟨rfl, k, os, rfl⟩; exact ⟨rfl, Lib.below_grow _ _ (Nat.le_refl _) _ _⟩)
          have HPr : Hid (∀ w, Pow w → Calls Tryz.prog 63 #[.int .i32 x] w fun e w' => e = .returned (.string ⟨(printS x).toArray⟩) ∧ Below w.heap.size w w') := fun w hp => print_any x w hp
          have la := itoa_len i (by omega)
          have lb := itoa_len j (by omega)
          have lc := printS_len x
          have ea : (⟨#[32, 120]⟩ : ByteArray) ++ (⟨(Lib.itoa (i : Int)).toArray⟩ : ByteArray) = ⟨([32, 120] ++ Lib.itoa (i : Int)).toArray⟩ := str_cat [32, 120] _
          have eb : (⟨([32, 120] ++ Lib.itoa (i : Int)).toArray⟩ : ByteArray) ++ (⟨#[45, 120]⟩ : ByteArray) = ⟨([32, 120] ++ Lib.itoa (i : Int) ++ [45, 120]).toArray⟩ := str_cat _ [45, 120]
          have ec : (⟨([32, 120] ++ Lib.itoa (i : Int) ++ [45, 120]).toArray⟩ : ByteArray) ++ (⟨(Lib.itoa (j : Int)).toArray⟩ : ByteArray) = ⟨([32, 120] ++ Lib.itoa (i : Int) ++ [45, 120] ++ Lib.itoa (j : Int)).toArray⟩ := str_cat _ _
          have ed : (⟨([32, 120] ++ Lib.itoa (i : Int) ++ [45, 120] ++ Lib.itoa (j : Int)).toArray⟩ : ByteArray) ++ (⟨(printS x).toArray⟩ : ByteArray) = ⟨(termS i j x).toArray⟩ := str_cat _ _
          have l3 : ([32, 120] ++ Lib.itoa (i : Int)).length ≤ 23 := by simp; omega
          have l4 : ([32, 120] ++ Lib.itoa (i : Int) ++ [45, 120]).length ≤ 25 := by simp; omega
          have l5 : ([32, 120] ++ Lib.itoa (i : Int) ++ [45, 120] ++ Lib.itoa (j : Int)).length ≤ 46 := by simp; omega
          generalize [32, 120] ++ Lib.itoa (i : Int) ++ [45, 120] ++ Lib.itoa (j : Int) = s3 at *
          generalize [32, 120] ++ Lib.itoa (i : Int) ++ [45, 120] = s2 at *
          generalize [32, 120] ++ Lib.itoa (i : Int) = s1 at *
          generalize Lib.itoa (i : Int) = si at *
          generalize Lib.itoa (j : Int) = sj at *
          generalize printS x = sx at *
          go_wp2_with fail
          refine (HT.out _).mono ?_
          rintro e w6 ⟨rfl, rfl⟩
          go_wp2_with fail
          refine (HIi.out _ (pow_later HP.out B6.out)).mono ?_
          rintro e w7 ⟨rfl, hb7⟩
          have I7 := hideD (builder_past I5.out hb7)
          have B7 := hideD (beyondD B6.out hb7)
          have S7 := hideD (show bb < w7.heap.size from Nat.lt_of_lt_of_le S5.out hb7.size)
          clear hb7 I5 B6 S5 HIi HT
          go_wp2_with fail
          refine (HIj.out _ (pow_later HP.out B7.out)).mono ?_
          rintro e w8 ⟨rfl, hb8⟩
          have I8 := hideD (builder_past I7.out hb8)
          have B8 := hideD (beyondD B7.out hb8)
          have S8 := hideD (show bb < w8.heap.size from Nat.lt_of_lt_of_le S7.out hb8.size)
          clear hb8 I7 B7 S7 HIj
          go_wp2_with fail
          refine (HPr.out _ (pow_later HP.out B8.out)).mono ?_
          rintro e w9 ⟨rfl, hb9⟩
          have I9 := hideD (builder_past I8.out hb9)
          have B9 := hideD (beyondD B8.out hb9)
          have S9 := hideD (show bb < w9.heap.size from Nat.lt_of_lt_of_le S8.out hb9.size)
          clear hb9 I8 B8 S8 HPr
          have HW := hideD (Go.Proofs.Tryz.writeString _ _ _ ⟨(termS i j x).toArray⟩ _ I9.out (by have := AL.out; have := TL.out; rw [size_mk, byte_len]; omega) (Nat.le_of_lt S9.out))
          go_wp2_with fail
          refine HW.out.mono ?_
          rintro e wa ⟨rfl, hI, hba⟩
          have Ia : Hid (Lib.IsBuilder 100 5 bb bb (Lib.byteCells (accS n c (K + 1))) wa) := .inr (by rw [nx2.out, byte_app]; exact hI)
          have Ba := hideD (B9.out.trans (hba.mono sz2.out))
          have Sa := hideD (show bb < wa.heap.size from hI.lt)
          clear hI hba HW I9 B9 S9
          go_wp2_with fail
          go_roundw
          case rel => exact ⟨K + 1, by omega, by go_num, Ia, Ba, Sa⟩
          case measure => simp [intOf]; omega
      · have eK : K = m := by omega
        subst eK
        have HS := hideD (Go.Proofs.Tryz.builderString bb bb (accS n c K) wr hI.out (Nat.le_of_lt hS.out))
        go_wp2_with fail
        refine HS.out.mono ?_
        rintro e wz ⟨rfl, hbz⟩
        go_wp2_with fail
        exact bodyPost_ret (v := .string ⟨(accS n c K).toArray⟩) (by simp [results, Tryz.results22, go_sem]) rfl ⟨by rw [EP.out], hB.out.trans (hbz.mono sz2.out)⟩
end Go.Proofs.YtfhfdpapppgfpaaGreatDoor

/-
  What must be whatever is asked (live of the statements of ops).
-/
namespace Go.Proofs.YtfhfdpapppgfpaaGreatDoor
open Go.RowKit
set_option linter.unusedVariables false
set_option maxRecDepth 100000
theorem narB_32 (x : Int) : -2147483648 ≤ narB x ∧ narB x ≤ 2147483647 := by
  unfold narB
  split
  · omega
  · split <;> omega
theorem zoneR_32 {n : Nat} {r : Mat} {c : Row} (h : zoneR n r = some c) : C32 c := by
  intro k
  unfold zoneR at h
  split at h
  · injection h with h
    subst h
    show -2147483648 ≤ (0 : Int) ∧ (0 : Int) ≤ 2147483647
    omega
  · split at h
    · injection h with h
      subst h
      show -2147483648 ≤ cellsUpto _ _ _ k ∧ cellsUpto _ _ _ k ≤ 2147483647
      unfold cellsUpto
      split
      · exact narB_32 _
      · omega
    · cases h
theorem out_zone {w' : World} {B n : Nat} {e : Ending} {r : Mat} {l l2 : List Int} (h : OpsOut w' B n e r) (hl : rowsL n r (n + 1) = l) (ha : allRight l ((n + 1) * (n + 1)) = true) (hz : (zoneR n (tgAll n l ((n + 1) * (n + 1)) (startR n (n + 1) 0))).map (fun c => listOf c ((n + 1) * (n + 1))) = some l2) :
    ∃ b c, B ≤ b ∧ e = .returned (.tuple #[.pointer (some ⟨b, 0, none⟩), .int .i64 0]) ∧ ZoneAt w' b n c ∧ C32 c ∧ listOf c ((n + 1) * (n + 1)) = l2 := by
  rcases h with ⟨h1, -⟩ | ⟨-, h2⟩
  · rw [hl, ha] at h1
    cases h1
  · rw [hl] at h2
    cases ez : zoneR n (tgAll n l ((n + 1) * (n + 1)) (startR n (n + 1) 0)) with
    | none => rw [ez] at hz; cases hz
    | some c =>
      rw [ez] at h2 hz
      obtain ⟨b, hb, rfl, hZ⟩ := h2
      exact ⟨b, c, hb, rfl, hZ, zoneR_32 ez, by simpa using hz⟩
theorem at9_list {c : Row} {a0 a1 a2 a3 a4 a5 a6 a7 a8 : Int} (h : listOf c ((2 + 1) * (2 + 1)) = [a0, a1, a2, a3, a4, a5, a6, a7, a8]) : c 0 = a0 ∧ c 1 = a1 ∧ c 2 = a2 ∧ c 3 = a3 ∧ c 4 = a4 ∧ c 5 = a5 ∧ c 6 = a6 ∧ c 7 = a7 ∧ c 8 = a8 := by
  simpa [listOf, List.range_succ] using h
theorem row_up {c : Row} (h : listOf c ((2 + 1) * (2 + 1)) = [1, 1, 1, 1, 1, 1, 1, 1, 1]) : rowsL 2 (upM (2 + 1) (oR 2 c ((2 + 1) * (2 + 1)))) (2 + 1) = [1, 1, 1, 2147483647, 1, 1, 2147483647, 1, 1] := by
  obtain ⟨h0, h1, h2, h3, h4, h5, h6, h7, h8⟩ := at9_list h
  simp [rowsL, listOf, flat, upM, oR, List.range_succ, *]
def L6 : Lims := ⟨1, fun _ => 1, fun _ => 0, fun _ => 6⟩
theorem row_con {c : Row} (h : listOf c ((2 + 1) * (2 + 1)) = [1, 1, 1, 2147483647, 1, 1, 2147483647, 1, 1]) : rowsL 2 (limK L6 L6.q (oR 2 c ((2 + 1) * (2 + 1)))) (2 + 1) = [1, 1, 1, 6, 1, 1, 2147483647, 1, 1] := by
  obtain ⟨h0, h1, h2, h3, h4, h5, h6, h7, h8⟩ := at9_list h
  simp [rowsL, listOf, flat, L6, limK, limM, upd, oR, List.range_succ, *]
  decide
theorem row_rst {c : Row} (h : listOf c ((2 + 1) * (2 + 1)) = [1, 1, 1, 6, 1, 1, 6, 1, 1]) : rowsL 2 (rstM 2 1 0 (oR 2 c ((2 + 1) * (2 + 1))) 2) (2 + 1) = [1, 1, 1, 1, 2147483647, 2147483647, 6, 6, 1] := by
  obtain ⟨h0, h1, h2, h3, h4, h5, h6, h7, h8⟩ := at9_list h
  simp [rowsL, listOf, flat, rstM, limM, freeK, freeS, upd, oR, List.range_succ, *]
  decide
theorem z_zero : (zoneR 2 (zeroR 2 (startR 2 (2 + 1) 0))).map (fun c => listOf c ((2 + 1) * (2 + 1))) = some [1, 1, 1, 1, 1, 1, 1, 1, 1] := by kernel_rfl
theorem z_up : (zoneR 2 (tgAll 2 [1, 1, 1, 2147483647, 1, 1, 2147483647, 1, 1] ((2 + 1) * (2 + 1)) (startR 2 (2 + 1) 0))).map (fun c => listOf c ((2 + 1) * (2 + 1))) = some [1, 1, 1, 2147483647, 1, 1, 2147483647, 1, 1] := by kernel_rfl
theorem z_con : (zoneR 2 (tgAll 2 [1, 1, 1, 6, 1, 1, 2147483647, 1, 1] ((2 + 1) * (2 + 1)) (startR 2 (2 + 1) 0))).map (fun c => listOf c ((2 + 1) * (2 + 1))) = some [1, 1, 1, 6, 1, 1, 6, 1, 1] := by kernel_rfl
theorem z_rst : (zoneR 2 (tgAll 2 [1, 1, 1, 1, 2147483647, 2147483647, 6, 6, 1] ((2 + 1) * (2 + 1)) (startR 2 (2 + 1) 0))).map (fun c => listOf c ((2 + 1) * (2 + 1))) = some [1, 1, 1, 1, 1, 1, 6, 6, 1] := by kernel_rfl
def txtB : List UInt8 := [50, 58, 32, 120, 49, 45, 120, 48, 60, 51, 32, 120, 49, 45, 120, 50, 60, 61, 48, 32, 120, 50, 45, 120, 48, 60, 51, 32, 120, 50, 45, 120, 49, 60, 61, 48]
def txtC : List UInt8 := [50, 58, 32, 120, 49, 45, 120, 48, 60, 61, 48, 32, 120, 49, 45, 120, 50, 60, 61, 48, 32, 120, 50, 45, 120, 48, 60, 51, 32, 120, 50, 45, 120, 49, 60, 51]
theorem accS_congr (n : Nat) (c d : Row) : ∀ K, (∀ k, k < K → c k = d k) → accS n c K = accS n d K
  | 0, _ => rfl
  | K + 1, h => by
    unfold accS
    rw [accS_congr n c d K fun k hk => h k (by omega), h K (by omega)]
theorem printZ_congr (n : Nat) (c d : Row) (h : ∀ k, k < (n + 1) * (n + 1) → c k = d k) : printZ n c = printZ n d := by
  unfold printZ
  rw [h 0 (Nat.mul_pos (by omega) (by omega)), accS_congr n c d _ h]
theorem print_of {c : Row} {l : List Int} (h : listOf c ((2 + 1) * (2 + 1)) = l) : printZ 2 c = printZ 2 (fun k => l.getD k 0) := by
  subst h
  exact printZ_congr 2 c _ fun k hk => (listOf_get c _ k hk).symm
theorem p_con : printZ 2 (fun k => [1, 1, 1, 6, 1, 1, 6, 1, 1].getD k 0) = txtB := by kernel_rfl
theorem p_rst : printZ 2 (fun k => [1, 1, 1, 1, 1, 1, 6, 6, 1].getD k 0) = txtC := by kernel_rfl
theorem con_zone {w' : World} {B n : Nat} {e : Ending} {L : Lims} {r : Mat} (h : ConOut w' B n e L r) (h1 : bndA n L L.q = true) (h2 : rgtA L L.q = true) : OpsOut w' B n e (limK L L.q r) := by
  rcases h with ⟨h3, -⟩ | ⟨-, h3, -⟩ | ⟨-, -, h3⟩
  · rw [h1] at h3; cases h3
  · rw [h2] at h3; cases h3
  · exact h3
set_option maxHeartbeats 4000000 in
theorem olive_any (w : World) (ht : Pow w) : Calls Tryz.prog 4 #[] w fun e w' => e = .returned (.bool true) ∧ Below w.heap.size w w' := by
  have HP := hideD ht
  have HZ := hideD (zero_dbm 2 w (by omega))
  obtain ⟨c1, e1, hc1⟩ : ∃ c, zoneR 2 (zeroR 2 (startR 2 (2 + 1) 0)) = some c ∧ listOf c ((2 + 1) * (2 + 1)) = [1, 1, 1, 1, 1, 1, 1, 1, 1] := by
    have := z_zero
    cases ez : zoneR 2 (zeroR 2 (startR 2 (2 + 1) 0)) with
    | none => rw [ez] at this; cases this
    | some c => rw [ez] at this; exact ⟨c, rfl, by simpa using this⟩
  rw [e1] at HZ
  have r1 := zoneR_32 e1
  clear ht e1
  go_enter Tryz.func4, Tryz.ntmps4
  go_wp2_with fail
  refine HZ.out.mono ?_
  rintro e w1 ⟨hb1, z1, l1, rfl, hZ1⟩
  have HU := hideD (up_any z1 2 c1 w1 (by omega) hZ1 r1)
  have B1 := hideD hb1
  clear HZ hb1 hZ1
  go_wp2_with fail
  refine HU.out.mono ?_
  rintro e w2 ⟨ho, hb2⟩
  obtain ⟨z2, c2, l2, rfl, hZ2, r2, hc2⟩ := out_zone ho (row_up hc1) (by kernel_rfl) z_up
  have B2 := hideD (beyondD B1.out hb2)
  have BL := below_one w2 (.cells #[.int .i64 1, .int .i64 0, .int .i32 6] 47)
  have hR : LimRow (w2.alloc (.cells #[.int .i64 1, .int .i64 0, .int .i32 6] 47)) w2.heap.size 0 L6 := fun k hk => by
    obtain rfl : k = 0 := by simp [L6] at hk; omega
    simp [go_sem, L6]
  have HC := hideD (con_main z2 2 w2.heap.size 0 1 c2 L6 _ (by omega) (hZ2.past BL) r2 hR (by simp) (fun k hk => by simp [L6]) (by simp [L6]))
  have B3 := hideD (beyondD B2.out BL)
  clear HU ho hb2 hZ2 B1 B2 BL hR
  go_wp2_with fail
  refine HC.out.mono ?_
  rintro e w3 ⟨ho, hb3⟩
  obtain ⟨z3, c3, l3, rfl, hZ3, r3, hc3⟩ := out_zone (con_zone ho (by kernel_rfl) (by kernel_rfl)) (row_con hc2) (by kernel_rfl) z_con
  have B4 := hideD (beyondD B3.out hb3)
  have HR := hideD (reset_any z3 2 1 0 c3 w3 (by omega) hZ3 r3 (by omega) (by decide) (by omega) (by omega))
  have hZ3' := hideD hZ3
  clear HC ho hb3 B3 hZ3
  go_wp2_with fail
  refine HR.out.mono ?_
  rintro e w4 ⟨ho, hb4⟩
  obtain ⟨z4, c4, l4, rfl, hZ4, r4, hc4⟩ := out_zone ho (row_rst hc3) (by kernel_rfl) z_rst
  have B5 := hideD (beyondD B4.out hb4)
  have hZ3 := hideD (hZ3'.out.past hb4)
  have HP3 := printZ_any z3 2 c3 w4 (by omega) hZ3.out (pow_later HP.out B5.out)
  rw [print_of hc3, p_con] at HP3
  have HP3 := hideD HP3
  have hZ4' := hideD hZ4
  clear HR ho hb4 B4 hZ4 hZ3'
  go_wp2_with fail
  refine HP3.out.mono ?_
  rintro e w5 ⟨rfl, hb5⟩
  have B6 := hideD (beyondD B5.out hb5)
  have HP4 := printZ_any z4 2 c4 w5 (by omega) (hZ4'.out.past hb5) (pow_later HP.out B6.out)
  rw [print_of hc4, p_rst] at HP4
  have HP4 := hideD HP4
  clear HP3 B5 hb5 hZ3 hZ4'
  unfold txtB
  go_wp2_with fail
  refine HP4.out.mono ?_
  rintro e w6 ⟨rfl, hb6⟩
  unfold txtC
  go_wp2_with fail
  go_ret
  exact ⟨rfl, beyondD B6.out hb6⟩
end Go.Proofs.YtfhfdpapppgfpaaGreatDoor
