/-
  A draft of ops in memory, and the contracts of side, Dim, draftOf.
-/
import Derived.Test.YtjanibholjimkaaQ9
import Derived.Deep.MidRow
import Derived.Laws.StructEq
namespace Go.Proofs.Ytjanibholjimkaa
open Go.RowKit
set_option linter.unusedVariables false
set_option maxRecDepth 100000
/-- In block b there lies a draft of ops of n clocks with these rows. -/
structure ODraft (w : World) (b n : Nat) (r : Mat) : Prop where
  clocks : w.cell? ⟨b, 0, none⟩ = some (.int .i64 n)
  cell : ∀ i j, i ≤ 8 → j ≤ 8 → w.cell? (at9 b i j) = some (.int .i32 (r i j))
  free : ∀ i j, i ≤ 8 → j ≤ 8 → w.frozen? (at9 b i j) = false
theorem ODraft.set {w : World} {b n : Nat} {r : Mat} (h : ODraft w b n r) {i j : Nat} (hi : i ≤ 8) (hj : j ≤ 8) (v : Int) : ODraft (w.setCell (at9 b i j) (.int .i32 v)) b n (upd r i j v) := by
  refine ⟨?_, ?_, ?_⟩
  · rw [World.cell?_setCell_other _ _ _ _ (by intro e; injection e; omega)]
    exact h.clocks
  · intro a c ha hc
    by_cases e : a = i ∧ c = j
    · obtain ⟨rfl, rfl⟩ := e
      rw [World.cell?_setCell_same _ _ _ (h.cell a c ha hc)]
      simp [upd]
    · rw [World.cell?_setCell_other _ _ _ _ (by intro e; injection e; omega), h.cell a c ha hc]
      simp [upd, e]
  · intro a c ha hc
    rw [World.frozen?_setCell]
    exact h.free a c ha hc
theorem ODraft.drew {w : World} {b n : Nat} {r : Mat} (h : ODraft w b n r) : ODraft w.drew b n r := ⟨h.clocks, h.cell, h.free⟩
theorem ODraft.lt {w : World} {b n : Nat} {r : Mat} (h : ODraft w b n r) : b < w.heap.size := World.block_lt_of_cell? _ _ h.clocks
theorem ODraft.later {w w' : World} {b n : Nat} {r : Mat} (h : ODraft w b n r) {B : Nat} (hb : Below B w w') (hB : b < B) : ODraft w' b n r :=
  ⟨(hb.cell hB).trans h.clocks, fun i j hi hj => (hb.cell (p := at9 b i j) hB).trans (h.cell i j hi hj), fun i j hi hj => (hb.frozen (p := at9 b i j) hB).trans (h.free i j hi hj)⟩
theorem ODraft.past {w w' : World} {b n : Nat} {r : Mat} (h : ODraft w b n r) (hb : Below w.heap.size w w') : ODraft w' b n r := h.later hb h.lt
theorem zeroO (w : World) : Sem.run Try.prog (zeroValue 69) w = .ok (.agg y82) w := by kernel_rfl
theorem new_odraft (w : World) (n : Nat) (T : TypeId) : ODraft (w.alloc (.cells (y82.setIfInBounds 0 (.int .i64 n)) T)) w.heap.size n (fun _ _ => 0) := by
  refine ⟨?_, ?_, ?_⟩
  · simp [go_sem, y82]
  · intro i j hi hj
    rw [World.cell?_alloc_at _ _ _ _ rfl, Array.getElem?_setIfInBounds_ne (by omega)]
    rw [y82, Array.getElem?_append_right (by simp; omega), Array.getElem?_replicate, if_pos (by simp; omega)]
  · intro i j hi hj
    simp [go_sem]
theorem oside_any (n : Nat) (w : World) (h : n ≤ 8) :
    Calls Try.prog 49 #[.agg #[.int .i64 n]] w fun e w' => e = .returned (.int .i64 ((n + 1 : Nat) : Int)) ∧ Below w.heap.size w w' := by
  go_enter Try.func49, Try.ntmps49
  go_wp2
  go_ret
  exact ⟨rI (by first | omega | (unfold wrap64; omega)), below_one _ _⟩
theorem dimZ_any (b : Nat) (n : Int) (w : World) (h : w.cell? ⟨b, 0, none⟩ = some (.int .i64 n)) :
    Calls Try.prog 16 #[.pointer (some ⟨b, 0, none⟩)] w fun e w' => e = .returned (.int .i64 n) ∧ w' = w := by
  go_enter Try.func16, Try.ntmps16
  go_wp2
  go_ret
  exact ⟨rfl, rfl⟩
/-- The rows of a zone's cells, the first K of them laid. -/
def oR (n : Nat) (c : Row) (K : Nat) : Mat := fun i j => if j ≤ n ∧ i * (n + 1) + j < K then c (i * (n + 1) + j) else 0
theorem oR_next (n : Nat) (c : Row) (K : Nat) : upd (oR n c K) (K / (n + 1)) (K % (n + 1)) (c K) = oR n c (K + 1) := by
  funext i j
  have d2 : K % (n + 1) ≤ n := by have := Nat.mod_lt K (show 0 < n + 1 by omega); omega
  have d3 : K / (n + 1) * (n + 1) + K % (n + 1) = K := by rw [Nat.mul_comm]; exact Nat.div_add_mod K (n + 1)
  unfold upd oR
  by_cases e : i = K / (n + 1) ∧ j = K % (n + 1)
  · obtain ⟨rfl, rfl⟩ := e
    rw [if_pos ⟨rfl, rfl⟩, d3, if_pos ⟨d2, by omega⟩]
  · rw [if_neg e]
    by_cases hj : j ≤ n
    · have ne : ¬ i * (n + 1) + j = K := by
        intro q
        have h1 : (i * (n + 1) + j) / (n + 1) = i := by rw [Nat.mul_comm, Nat.mul_add_div (by omega), Nat.div_eq_of_lt (by omega)]; rfl
        have h2 : (i * (n + 1) + j) % (n + 1) = j := by rw [Nat.mul_comm, Nat.mul_add_mod, Nat.mod_eq_of_lt (by omega)]
        rw [q] at h1 h2
        exact e ⟨h1.symm, h2.symm⟩
      congr 1
      apply propext
      constructor
      · rintro ⟨a, b⟩; exact ⟨a, by omega⟩
      · rintro ⟨a, b⟩; exact ⟨a, by omega⟩
    · rw [if_neg (by omega), if_neg (by omega)]
set_option maxHeartbeats 2000000 in
theorem odraft_any (b n : Nat) (c : Row) (w : World) (h : n ≤ 8) (hz : ZoneAt w b n c) :
    Calls Try.prog 26 #[.pointer (some ⟨b, 0, none⟩)] w fun e w' => (∃ d, e = .returned (.pointer (some ⟨d, 0, none⟩)) ∧ w.heap.size ≤ d ∧ ODraft w' d n (oR n c ((n + 1) * (n + 1)))) ∧ Below w.heap.size w w' := by
  have HD := hideD (dimZ_any b n w hz.clocks)
  have HC := hideD (cells_any b n c (w.alloc (.cells (y82.setIfInBounds 0 (.int .i64 n)) 69)) (hz.past (below_one _ _)) h)
  have Z := fun w => zeroO w
  have Zn := y82_ne
  have D0 := hideD (new_odraft w n 69)
  have B0 := hideD (below_one w (.cells (y82.setIfInBounds 0 (.int .i64 n)) 69))
  have HS : Hid (∀ w, Calls Try.prog 49 #[.agg #[.int .i64 n]] w fun e w' => e = .returned (.int .i64 ((n + 1 : Nat) : Int)) ∧ Below w.heap.size w w') := fun w => oside_any n w h
  clear hz
  go_enter Try.func26, Try.ntmps26
  go_wp2_with fail
  refine HD.out.mono ?_
  rintro e w' ⟨rfl, rfl⟩
  go_wp2_with fail
  refine HC.out.mono ?_
  rintro e w1 ⟨⟨v, rfl, g, cap, rfl, hg, hgl, hr⟩, hb⟩
  have hD1 := hideD (D0.out.later hb D0.out.lt)
  have hB1 := hideD (beyondD B0.out hb)
  have hG : Hid (g < w1.heap.size ∧ ∀ k, k < (n + 1) * (n + 1) → w1.cell? ⟨g, k, none⟩ = some (.int .i32 (c k))) := ⟨hgl, fun k hk => by
    have := hr k (by rw [listOf_len]; exact hk)
    rw [listOf_get c _ k hk] at this
    simpa using this⟩
  have hgd : Hid (w'.heap.size < g) := by have := B0.out.size; simp at hg; exact hg
  clear hr hb HC HD D0 B0 Z Zn hg hgl
  rw [listOf_len]
  have hm81 : (n + 1) * (n + 1) ≤ 81 := Nat.mul_le_mul (show n + 1 ≤ 9 by omega) (show n + 1 ≤ 9 by omega)
  have e0 : (fun _ _ => (0 : Int)) = oR n c 0 := by funext a b; simp [oR]
  rw [e0] at hD1
  clear e0
  have HQ : Hid (∀ k, k < (n + 1) * (n + 1) → k / (n + 1) ≤ n ∧ k % (n + 1) ≤ n) := fun k hk => ⟨by have := Nat.div_lt_of_lt_mul hk; omega, by have := Nat.mod_lt k (show 0 < n + 1 by omega); omega⟩
  have HT : Hid (∀ k : Nat, k < (n + 1) * (n + 1) → IntKind.i64.wrap ((k : Int) / ((n + 1 : Nat) : Int)) = ((k / (n + 1) : Nat) : Int) ∧ (k : Int) % ((n + 1 : Nat) : Int) = ((k % (n + 1) : Nat) : Int)) := fun k hk => by
    constructor
    · rw [← Int.natCast_ediv]
      have := Nat.div_le_self k (n + 1)
      generalize k / (n + 1) = z at *
      rw [IntKind.wrap_i64]
      omega
    · rw [← Int.natCast_emod]
  have HP : Hid (∀ wr, ODraft wr w'.heap.size n (oR n c ((n + 1) * (n + 1))) → Below w'.heap.size w' wr → (∃ d, Ending.returned (.pointer (some ⟨w'.heap.size, 0, none⟩)) = Ending.returned (.pointer (some ⟨d, 0, none⟩)) ∧ w'.heap.size ≤ d ∧ ODraft wr d n (oR n c ((n + 1) * (n + 1)))) ∧ Below w'.heap.size w' wr) := fun wr h1 h2 => ⟨⟨_, rfl, Nat.le_refl _, h1⟩, h2⟩
  have s0 : ¬ ((n + 1 : Nat) : Int) = 0 := by omega
  generalize hm : (n + 1) * (n + 1) = m at *
  have HM := hideD hm
  clear hm
  have m1 : (m : Int) ≤ 81 := by omega
  go_wp2_with fail
  go_loopw [14] (fun s wr => ∃ (K : Nat), K ≤ m ∧ s = .int .i64 K ∧ Hid (ODraft wr w'.heap.size n (oR n c K)) ∧ Hid (Below w'.heap.size w' wr) ∧ Hid (wr.heap.size ≥ w1.heap.size ∧ ∀ k, k < m → wr.cell? ⟨g, k, none⟩ = some (.int .i32 (c k)))) (fun s _ => m - (intOf s).toNat)
  case atStart => exact ⟨0, by omega, rfl, hD1, hB1, Nat.le_refl _, hG.out.2⟩
  case round =>
    obtain ⟨K, hK, rfl, hD, hB, hC⟩ := hrel
    clear hD1 hB1
    by_cases ck : K < m
    · have hrow := hC.out.2 K ck
      obtain ⟨i1, j1⟩ := HQ.out K ck
      obtain ⟨t1, t2⟩ := HT.out K ck
      have nx := hideD (oR_next n c K)
      generalize K / (n + 1) = i at *
      generalize K % (n + 1) = j at *
      generalize c K = x at *
      generalize ((n + 1 : Nat) : Int) = s at *
      have k0 : (0 : Int) ≤ (K : Int) := by omega
      have k1 : (K : Int) < (m : Int) := by omega
      go_upto_region 5 with (fail)
      have q0 := hD.out.clocks
      have q1 := hD.out.cell i j (by omega) (by omega)
      have q2 := hD.out.free i j (by omega) (by omega)
      have B2 := Below.refl wr.heap.size wr
      have i8 : i ≤ 8 := by omega
      have t5 : (K : Int).tmod s = (j : Int) := by rw [Int.tmod_eq_emod_of_nonneg (by omega)]; exact t2
      have j8 : j ≤ 8 := by omega
      have i9 : i < 9 := by omega
      have j9 : j < 9 := by omega
      have a0 : (0 : Int) ≤ (i : Int) := by omega
      have a1 : (i : Int) < 9 := by omega
      have a2 : (0 : Int) ≤ (j : Int) := by omega
      have a3 : (j : Int) < 9 := by omega
      go_region_held3 (fun w2 => w2.cell? ⟨w'.heap.size, 0, none⟩ = some (.int .i64 n))
        (first | with_reducible assumption | (rw [World.cell?_setCell_other _ _ _ _ (by intro e; injection e; omega)]; with_reducible assumption) | go_keep)
        (first | (go_at_call 49; refine (HS.out _).mono ?_; rintro e' w2 ⟨rfl, hb⟩; have s0 := kc ⟨w'.heap.size, 0, none⟩ (.int .i64 n) hb (by first | assumption | simp [go_sem, *]); have s1 := beyondD (w := wr) (by first | assumption | (apply Below.drew; assumption)) hb; have s2 := kc (at9 w'.heap.size i j) _ hb (by first | assumption | simp [go_sem, *]); have s3 := kf (at9 w'.heap.size i j) _ hb (by first | assumption | simp [go_sem, *]) (by first | assumption | simp [go_sem, *])))
      all_goals
        have hD2 := hideD ((hD.out.past s1).set i8 j8 x)
        rw [nx.out] at hD2
        have hB2 := hideD ((beyondD hB.out s1).setCell (p := at9 w'.heap.size i j) (Nat.le_refl _) (.int .i32 x))
        have hC2 : Hid ((w2.setCell (at9 w'.heap.size i j) (.int .i32 x)).heap.size ≥ w1.heap.size ∧ ∀ k, k < m → (w2.setCell (at9 w'.heap.size i j) (.int .i32 x)).cell? ⟨g, k, none⟩ = some (.int .i32 (c k))) := ⟨by
          have := s1.size
          have := hC.out.1
          rw [World.size_setCell]
          omega, fun k hk => by
          rw [World.cell?_setCell_other _ _ _ _ (by have := hgd.out; intro e; injection e; omega)]
          exact (s1.cell (p := ⟨g, k, none⟩) (by have := hC.out.1; have := hG.out.1; show g < _; omega)).trans (hC.out.2 k hk)⟩
        clear hD hB hC s0 s1 s2 s3 hb hrow q0 q1 q2
        go_wp2_with fail
        go_roundw
        case rel => exact ⟨K + 1, by omega, by go_num, hD2, hB2, hC2⟩
        case measure => simp [intOf]; omega
    · have e : K = m := by omega
      subst e
      go_wp2_with fail
      exact bodyPost_ret (v := .pointer (some ⟨w'.heap.size, 0, none⟩)) (by simp [results, Try.results26, go_sem]) rfl (by rw [HM.out]; exact HP.out _ hD.out hB.out)
end Go.Proofs.Ytjanibholjimkaa
