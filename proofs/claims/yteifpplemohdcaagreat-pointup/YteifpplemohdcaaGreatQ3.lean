/-
  The contracts of Zone.Cells, Includes, Equal, Key.
-/
import Derived.Test.YteifpplemohdcaaGreatQ2
import Derived.OwnWalk
import Derived.Laws.AppendOwn
import Derived.Deep.MidRow
import Derived.Laws.StructEq
import Derived.Laws.BitsLemmas
import Derived.Laws.OwnMore
import Derived.Deep.OwnRows
import Derived.Deep.RegionLaw
namespace Go.Proofs.YteifpplemohdcaaGreat
open Go.RowKit
set_option linter.unusedVariables false
set_option maxRecDepth 100000
theorem info_bd : (Tryz.prog.info? 93).map (fun i => (i.zero, i.size, i.bytes)) = some (some (.int .i32 0), 1, 4) := by kernel_rfl
/-- The used cells, as a list. -/
def listOf (c : Row) (m : Nat) : List Int := (List.range m).map c
theorem listOf_len (c : Row) (m : Nat) : (listOf c m).length = m := by simp [listOf]
theorem listOf_get (c : Row) (m j : Nat) (h : j < m) : (listOf c m).getD j 0 = c j := by simp [listOf, List.getD, h]
/-- A row that the call made itself. -/
def OwnRow (w : World) (B : Nat) (v : Value) (l : List Int) : Prop := ∃ g cap, v = .slice (some ⟨g, 0, none⟩) l.length cap ∧ B ≤ g ∧ g < w.heap.size ∧ RowAt w g 0 l
set_option maxHeartbeats 1000000 in
theorem cells_any (b n : Nat) (c : Row) (w : World) (hz : ZoneAt w b n c) (hn : n ≤ 8) :
    Calls Tryz.prog 139 #[.pointer (some ⟨b, 0, none⟩)] w fun e w' => (∃ v, e = .returned v ∧ OwnRow w' w.heap.size v (listOf c ((n + 1) * (n + 1)))) ∧ Below w.heap.size w w' := by
  have HU := hideD (used_any b n w hn hz.clocks)
  have hm : (n + 1) * (n + 1) ≤ 81 := Nat.mul_le_mul (show n + 1 ≤ 9 by omega) (show n + 1 ≤ 9 by omega)
  have hp : 0 < (n + 1) * (n + 1) := Nat.mul_pos (by omega) (by omega)
  generalize (n + 1) * (n + 1) = m at *
  have hl := listOf_len c m
  obtain ⟨i0, hi, hz0, hz1, hz2⟩ := info_parts info_bd
  have HZ := hideD hz
  clear hz
  go_enter Tryz.func139, Tryz.ntmps139
  go_wp2_with fail
  refine HU.out.mono ?_
  rintro e w1 ⟨rfl, hb⟩
  have hZ1 := hideD (HZ.out.past hb)
  have hB1 := hideD hb
  have HN : Hid (∀ j u, ((listOf c m).map (Value.int .i32))[j]? = some u → w1.cell? ((⟨b, 1, none⟩ : Addr).add j) = some u) := by
    intro j u hu
    rw [Addr.add_lit]
    by_cases hj : j < m
    · rw [hZ1.out.cell j (by omega)]
      simp [listOf, hj] at hu
      simp [hu]
    · rw [List.getElem?_eq_none (by simp [hl]; omega)] at hu
      cases hu
  clear hb HU HZ
  go_wp2_with (at_builtin; refine wpList_append_own _ rfl _ _ 59 rfl w1.heap.size 93 i0 (.int .i32 0) 1 4 Tryz.underlying59 hi hz0 hz1 hz2 rfl (by decide) _ 0 [] rfl (World.ownsRow_nil _ _ _ _) ⟨b, 1, none⟩ m 81 ((listOf c m).map (Value.int .i32)) rfl (by simp [hl]) HN.out (fun x hx => by obtain ⟨z, _, rfl⟩ := List.mem_map.1 hx; rfl) (by unfold maxLen; omega) (by omega) (Nat.le_refl _) ?_; intro v' w2 hown hgrow hnil)
  have hb2 : Below w1.heap.size w1 w2 := (Below.refl _ _).grown hgrow (Nat.le_refl _) (by intro k hk; cases hk)
  go_ret
  refine ⟨⟨v', rfl, ?_⟩, beyondD hB1.out hb2⟩
  rcases hown.2 with ⟨rfl, hn0⟩ | ⟨g, cap, cur, rfl, hg, h2, h3, h4, h5, h6⟩
  · exfalso
    simp at hn0
    omega
  · have hrow : RowAt w2 g 0 (listOf c m) := fun j hj => by
      have hc := World.ownsRow.cells hown (g := g) rfl j (.int .i32 ((listOf c m).getD j 0)) (by simp [List.getD, hj])
      rw [Addr.add_lit] at hc
      exact hc
    refine ⟨g, cap, by rw [hl]; simp, Nat.le_trans hB1.out.size hg, ?_, hrow⟩
    exact World.block_lt_of_cell? _ _ (hrow 0 (by rw [hl]; exact hp))
end Go.Proofs.YteifpplemohdcaaGreat

/-
  A draft of ops in memory, and the contracts of side, Dim, draftOf.
-/
namespace Go.Proofs.YteifpplemohdcaaGreat
open Go.RowKit
set_option linter.unusedVariables false
set_option maxRecDepth 100000
/-- In block b there lies a draft of ops of n clocks with these rows. -/
structure ODraft (w : World) (b n : Nat) (r : Mat) : Prop where
  clocks : w.cell? ⟨b, 0, none⟩ = some (.int .i64 n)
  cell : ∀ i j, i ≤ 8 → j ≤ 8 → w.cell? (at9 b i j) = some (.int .i32 (r i j))
  free : ∀ i j, i ≤ 8 → j ≤ 8 → w.frozen? (at9 b i j) = false
theorem ODraft.set {w : World} {b n : Nat} {r : Mat} (h : ODraft w b n r) {i j : Nat} (hi : i ≤ 8) (hj : j ≤ 8) (v : Int) : ODraft (w.setCell (at9 b i j) (.int .i32 v)) b n (upd r i j v) := by
  refine ⟨?_, ?_, ?_⟩
  · rw [World.cell?_setCell_other _ _ _ _ (by intro e; injection e; omega)]
    exact h.clocks
  · intro a c ha hc
    by_cases e : a = i ∧ c = j
    · obtain ⟨rfl, rfl⟩ := e
      rw [World.cell?_setCell_same _ _ _ (h.cell a c ha hc)]
      simp [upd]
    · rw [World.cell?_setCell_other _ _ _ _ (by intro e; injection e; omega), h.cell a c ha hc]
      simp [upd, e]
  · intro a c ha hc
    rw [World.frozen?_setCell]
    exact h.free a c ha hc
theorem ODraft.drew {w : World} {b n : Nat} {r : Mat} (h : ODraft w b n r) : ODraft w.drew b n r := ⟨h.clocks, h.cell, h.free⟩
theorem ODraft.lt {w : World} {b n : Nat} {r : Mat} (h : ODraft w b n r) : b < w.heap.size := World.block_lt_of_cell? _ _ h.clocks
theorem ODraft.later {w w' : World} {b n : Nat} {r : Mat} (h : ODraft w b n r) {B : Nat} (hb : Below B w w') (hB : b < B) : ODraft w' b n r :=
  ⟨(hb.cell hB).trans h.clocks, fun i j hi hj => (hb.cell (p := at9 b i j) hB).trans (h.cell i j hi hj), fun i j hi hj => (hb.frozen (p := at9 b i j) hB).trans (h.free i j hi hj)⟩
theorem ODraft.past {w w' : World} {b n : Nat} {r : Mat} (h : ODraft w b n r) (hb : Below w.heap.size w w') : ODraft w' b n r := h.later hb h.lt
theorem zeroO (w : World) : Sem.run Tryz.prog (zeroValue 137) w = .ok (.agg y82) w := by kernel_rfl
theorem new_odraft (w : World) (n : Nat) (T : TypeId) : ODraft (w.alloc (.cells (y82.setIfInBounds 0 (.int .i64 n)) T)) w.heap.size n (fun _ _ => 0) := by
  refine ⟨?_, ?_, ?_⟩
  · simp [go_sem, y82]
  · intro i j hi hj
    rw [World.cell?_alloc_at _ _ _ _ rfl, Array.getElem?_setIfInBounds_ne (by omega)]
    rw [y82, Array.getElem?_append_right (by simp; omega), Array.getElem?_replicate, if_pos (by simp; omega)]
  · intro i j hi hj
    simp [go_sem]
theorem oside_any (n : Nat) (w : World) (h : n ≤ 8) :
    Calls Tryz.prog 140 #[.agg #[.int .i64 n]] w fun e w' => e = .returned (.int .i64 ((n + 1 : Nat) : Int)) ∧ Below w.heap.size w w' := by
  go_enter Tryz.func140, Tryz.ntmps140
  go_wp2
  go_ret
  exact ⟨rI (by first | omega | (unfold wrap64; omega)), below_one _ _⟩
theorem dimZ_any (b : Nat) (n : Int) (w : World) (h : w.cell? ⟨b, 0, none⟩ = some (.int .i64 n)) :
    Calls Tryz.prog 69 #[.pointer (some ⟨b, 0, none⟩)] w fun e w' => e = .returned (.int .i64 n) ∧ w' = w := by
  go_enter Tryz.func69, Tryz.ntmps69
  go_wp2
  go_ret
  exact ⟨rfl, rfl⟩
/-- The rows of a zone's cells, the first K of them laid. -/
def oR (n : Nat) (c : Row) (K : Nat) : Mat := fun i j => if j ≤ n ∧ i * (n + 1) + j < K then c (i * (n + 1) + j) else 0
theorem oR_next (n : Nat) (c : Row) (K : Nat) : upd (oR n c K) (K / (n + 1)) (K % (n + 1)) (c K) = oR n c (K + 1) := by
  funext i j
  have d2 : K % (n + 1) ≤ n := by have := Nat.mod_lt K (show 0 < n + 1 by omega); omega
  have d3 : K / (n + 1) * (n + 1) + K % (n + 1) = K := by rw [Nat.mul_comm]; exact Nat.div_add_mod K (n + 1)
  unfold upd oR
  by_cases e : i = K / (n + 1) ∧ j = K % (n + 1)
  · obtain ⟨rfl, rfl⟩ := e
    rw [if_pos ⟨rfl, rfl⟩, d3, if_pos ⟨d2, by omega⟩]
  · rw [if_neg e]
    by_cases hj : j ≤ n
    · have ne : ¬ i * (n + 1) + j = K := by
        intro q
        have h1 : (i * (n + 1) + j) / (n + 1) = i := by rw [Nat.mul_comm, Nat.mul_add_div (by omega), Nat.div_eq_of_lt (by omega)]; rfl
        have h2 : (i * (n + 1) + j) % (n + 1) = j := by rw [Nat.mul_comm, Nat.mul_add_mod, Nat.mod_eq_of_lt (by omega)]
        rw [q] at h1 h2
        exact e ⟨h1.symm, h2.symm⟩
      congr 1
      apply propext
      constructor
      · rintro ⟨a, b⟩; exact ⟨a, by omega⟩
      · rintro ⟨a, b⟩; exact ⟨a, by omega⟩
    · rw [if_neg (by omega), if_neg (by omega)]
set_option maxHeartbeats 2000000 in
theorem odraft_any (b n : Nat) (c : Row) (w : World) (h : n ≤ 8) (hz : ZoneAt w b n c) :
    Calls Tryz.prog 88 #[.pointer (some ⟨b, 0, none⟩)] w fun e w' => (∃ d, e = .returned (.pointer (some ⟨d, 0, none⟩)) ∧ w.heap.size ≤ d ∧ ODraft w' d n (oR n c ((n + 1) * (n + 1)))) ∧ Below w.heap.size w w' := by
  have HD := hideD (dimZ_any b n w hz.clocks)
  have HC := hideD (cells_any b n c (w.alloc (.cells (y82.setIfInBounds 0 (.int .i64 n)) 137)) (hz.past (below_one _ _)) h)
  have Z := fun w => zeroO w
  have Zn := y82_ne
  have D0 := hideD (new_odraft w n 137)
  have B0 := hideD (below_one w (.cells (y82.setIfInBounds 0 (.int .i64 n)) 137))
  have HS : Hid (∀ w, Calls Tryz.prog 140 #[.agg #[.int .i64 n]] w fun e w' => e = .returned (.int .i64 ((n + 1 : Nat) : Int)) ∧ Below w.heap.size w w') := fun w => oside_any n w h
  clear hz
  go_enter Tryz.func88, Tryz.ntmps88
  go_wp2_with fail
  refine HD.out.mono ?_
  rintro e w' ⟨rfl, rfl⟩
  go_wp2_with fail
  refine HC.out.mono ?_
  rintro e w1 ⟨⟨v, rfl, g, cap, rfl, hg, hgl, hr⟩, hb⟩
  have hD1 := hideD (D0.out.later hb D0.out.lt)
  have hB1 := hideD (beyondD B0.out hb)
  have hG : Hid (g < w1.heap.size ∧ ∀ k, k < (n + 1) * (n + 1) → w1.cell? ⟨g, k, none⟩ = some (.int .i32 (c k))) := ⟨hgl, fun k hk => by
    have := hr k (by rw [listOf_len]; exact hk)
    rw [listOf_get c _ k hk] at this
    simpa using this⟩
  have hgd : Hid (w'.heap.size < g) := by have := B0.out.size; simp at hg; exact hg
  clear hr hb HC HD D0 B0 Z Zn hg hgl
  rw [listOf_len]
  have hm81 : (n + 1) * (n + 1) ≤ 81 := Nat.mul_le_mul (show n + 1 ≤ 9 by omega) (show n + 1 ≤ 9 by omega)
  have e0 : (fun _ _ => (0 : Int)) = oR n c 0 := by funext a b; simp [oR]
  rw [e0] at hD1
  clear e0
  have HQ : Hid (∀ k, k < (n + 1) * (n + 1) → k / (n + 1) ≤ n ∧ k % (n + 1) ≤ n) := fun k hk => ⟨by have := Nat.div_lt_of_lt_mul hk; omega, by have := Nat.mod_lt k (show 0 < n + 1 by omega); omega⟩
  have HT : Hid (∀ k : Nat, k < (n + 1) * (n + 1) → IntKind.i64.wrap ((k : Int) / ((n + 1 : Nat) : Int)) = ((k / (n + 1) : Nat) : Int) ∧ (k : Int) % ((n + 1 : Nat) : Int) = ((k % (n + 1) : Nat) : Int)) := fun k hk => by
    constructor
    · rw [← Int.natCast_ediv]
      have := Nat.div_le_self k (n + 1)
      generalize k / (n + 1) = z at *
      rw [IntKind.wrap_i64]
      omega
    · rw [← Int.natCast_emod]
  have HP : Hid (∀ wr, ODraft wr w'.heap.size n (oR n c ((n + 1) * (n + 1))) → Below w'.heap.size w' wr → (∃ d, Ending.returned (.pointer (some ⟨w'.heap.size, 0, none⟩)) = Ending.returned (.pointer (some ⟨d, 0, none⟩)) ∧ w'.heap.size ≤ d ∧ ODraft wr d n (oR n c ((n + 1) * (n + 1)))) ∧ Below w'.heap.size w' wr) := fun wr h1 h2 => ⟨⟨_, rfl, Nat.le_refl _, h1⟩, h2⟩
  have s0 : ¬ ((n + 1 : Nat) : Int) = 0 := by omega
  generalize hm : (n + 1) * (n + 1) = m at *
  have HM := hideD hm
  clear hm
  have m1 : (m : Int) ≤ 81 := by omega
  go_wp2_with fail
  go_loopw [14] (fun s wr => ∃ (K : Nat), K ≤ m ∧ s = .int .i64 K ∧ Hid (ODraft wr w'.heap.size n (oR n c K)) ∧ Hid (Below w'.heap.size w' wr) ∧ Hid (wr.heap.size ≥ w1.heap.size ∧ ∀ k, k < m → wr.cell? ⟨g, k, none⟩ = some (.int .i32 (c k)))) (fun s _ => m - (intOf s).toNat)
  case atStart => exact ⟨0, by omega, rfl, hD1, hB1, Nat.le_refl _, hG.out.2⟩
  case round =>
    obtain ⟨K, hK, rfl, hD, hB, hC⟩ := hrel
    clear hD1 hB1
    by_cases ck : K < m
    · have hrow := hC.out.2 K ck
      obtain ⟨i1, j1⟩ := HQ.out K ck
      obtain ⟨t1, t2⟩ := HT.out K ck
      have nx := hideD (oR_next n c K)
      generalize K / (n + 1) = i at *
      generalize K % (n + 1) = j at *
      generalize c K = x at *
      generalize ((n + 1 : Nat) : Int) = s at *
      have k0 : (0 : Int) ≤ (K : Int) := by omega
      have k1 : (K : Int) < (m : Int) := by omega
      go_upto_region 5 with (fail)
      have q0 := hD.out.clocks
      have q1 := hD.out.cell i j (by omega) (by omega)
      have q2 := hD.out.free i j (by omega) (by omega)
      have B2 := Below.refl wr.heap.size wr
      have i8 : i ≤ 8 := by omega
      have t5 : (K : Int).tmod s = (j : Int) := by rw [Int.tmod_eq_emod_of_nonneg (by omega)]; exact t2
      have j8 : j ≤ 8 := by omega
      have i9 : i < 9 := by omega
      have j9 : j < 9 := by omega
      have a0 : (0 : Int) ≤ (i : Int) := by omega
      have a1 : (i : Int) < 9 := by omega
      have a2 : (0 : Int) ≤ (j : Int) := by omega
      have a3 : (j : Int) < 9 := by omega
      go_region_held3 (fun w2 => w2.cell? ⟨w'.heap.size, 0, none⟩ = some (.int .i64 n))
        (first | with_reducible assumption | (rw [World.cell?_setCell_other _ _ _ _ (by intro e; injection e; omega)]; with_reducible assumption) | go_keep)
        (first | (go_at_call 140; refine (HS.out _).mono ?_; rintro e' w2 ⟨rfl, hb⟩; have s0 := kc ⟨w'.heap.size, 0, none⟩ (.int .i64 n) hb (by first | assumption | simp [go_sem, *]); have s1 := beyondD (w := wr) (by first | assumption | (apply Below.drew; assumption)) hb; have s2 := kc (at9 w'.heap.size i j) _ hb (by first | assumption | simp [go_sem, *]); have s3 := kf (at9 w'.heap.size i j) _ hb (by first | assumption | simp [go_sem, *]) (by first | assumption | simp [go_sem, *])))
      all_goals
        have hD2 := hideD ((hD.out.past s1).set i8 j8 x)
        rw [nx.out] at hD2
        have hB2 := hideD ((beyondD hB.out s1).setCell (p := at9 w'.heap.size i j) (Nat.le_refl _) (.int .i32 x))
        have hC2 : Hid ((w2.setCell (at9 w'.heap.size i j) (.int .i32 x)).heap.size ≥ w1.heap.size ∧ ∀ k, k < m → (w2.setCell (at9 w'.heap.size i j) (.int .i32 x)).cell? ⟨g, k, none⟩ = some (.int .i32 (c k))) := ⟨by
          have := s1.size
          have := hC.out.1
          rw [World.size_setCell]
          omega, fun k hk => by
          rw [World.cell?_setCell_other _ _ _ _ (by have := hgd.out; intro e; injection e; omega)]
          exact (s1.cell (p := ⟨g, k, none⟩) (by have := hC.out.1; have := hG.out.1; show g < _; omega)).trans (hC.out.2 k hk)⟩
        clear hD hB hC s0 s1 s2 s3 hb hrow q0 q1 q2
        go_wp2_with fail
        go_roundw
        case rel => exact ⟨K + 1, by omega, by go_num, hD2, hB2, hC2⟩
        case measure => simp [intOf]; omega
    · have e : K = m := by omega
      subst e
      go_wp2_with fail
      exact bodyPost_ret (v := .pointer (some ⟨w'.heap.size, 0, none⟩)) (by simp [results, Tryz.results88, go_sem]) rfl (by rw [HM.out]; exact HP.out _ hD.out hB.out)
end Go.Proofs.YteifpplemohdcaaGreat

/-
  The document's answer for layer 3: the sum of two wide bounds, and the wide cells of a row.
-/
namespace Go.Proofs.YteifpplemohdcaaGreat
open Go.RowKit
set_option linter.unusedVariables false
set_option maxRecDepth 100000
theorem i64_and1 (n : Int) : bits .and .i64 n 1 = n % 2 := by
  have h1 : (BitVec.ofInt 64 1).toNat = 2 ^ 1 - 1 := by decide
  have key : (BitVec.ofInt 64 n &&& BitVec.ofInt 64 1).toNat = (n % ((2 ^ 64 : Nat) : Int)).toNat % 2 ^ 1 := by
    rw [BitVec.toNat_and, BitVec.toNat_ofInt, h1, Nat.and_two_pow_sub_one_eq_mod]
  show IntKind.i64.wrap ((BitVec.ofInt 64 n &&& BitVec.ofInt 64 1).toNat : Nat) = n % 2
  rw [key, IntKind.wrap_i64]
  omega
theorem i64_or_odd (a b : Int) : bits .or .i64 a b % 2 = if a % 2 = 1 ∨ b % 2 = 1 then 1 else 0 := by
  have key : (BitVec.ofInt 64 a ||| BitVec.ofInt 64 b).toNat % 2 = 1 ↔ (a % ((2 ^ 64 : Nat) : Int)).toNat % 2 = 1 ∨ (b % ((2 ^ 64 : Nat) : Int)).toNat % 2 = 1 := by
    rw [BitVec.toNat_or, BitVec.toNat_ofInt, BitVec.toNat_ofInt, Nat.or_mod_two_eq_one]
  show IntKind.i64.wrap ((BitVec.ofInt 64 a ||| BitVec.ofInt 64 b).toNat : Nat) % 2 = _
  rw [IntKind.wrap_i64]
  generalize (BitVec.ofInt 64 a ||| BitVec.ofInt 64 b).toNat = x at *
  split <;> omega
end Go.Proofs.YteifpplemohdcaaGreat

/-
  The document's answer for layer 3: the closed form of wide cells.
-/
namespace Go.Proofs.YteifpplemohdcaaGreat
open Go.RowKit
set_option linter.unusedVariables false
set_option maxRecDepth 100000
theorem pos_inj {n i j a c : Nat} (hj : j ≤ n) (hc : c ≤ n) (h : i * (n + 1) + j = a * (n + 1) + c) : i = a ∧ j = c := by
  have h1 : (i * (n + 1) + j) / (n + 1) = i := by rw [Nat.mul_comm, Nat.mul_add_div (by omega), Nat.div_eq_of_lt (by omega)]; rfl
  have h2 : (a * (n + 1) + c) / (n + 1) = a := by rw [Nat.mul_comm, Nat.mul_add_div (by omega), Nat.div_eq_of_lt (by omega)]; rfl
  have e : i = a := by rw [← h1, h, h2]
  subst e
  exact ⟨rfl, by omega⟩
theorem pos_lt {n i j : Nat} (hi : i ≤ n) (hj : j ≤ n) : i * (n + 1) + j < (n + 1) * (n + 1) := by
  have := Nat.mul_le_mul_right (n + 1) (show i + 1 ≤ n + 1 by omega)
  rw [Nat.add_mul] at this
  omega
def rcStep (k i j : Nat) (r : Mat) : Mat := if dplus (r i k) (r k j) < r i j then upd r i j (dplus (r i k) (r k j)) else r
def rcRow (k i : Nat) : Nat → Mat → Mat
  | 0, r => r
  | c + 1, r => rcStep k i c (rcRow k i c r)
def rcAll (k n : Nat) : Nat → Mat → Mat
  | 0, r => r
  | c + 1, r => rcRow k c (n + 1) (rcAll k n c r)
def rcl (n : Nat) : Nat → Mat → Option Mat
  | 0, r => some r
  | c + 1, r => (rcl n c r).bind fun q => if diagOk n (rcAll c n (n + 1) q) (n + 1) then some (rcAll c n (n + 1) q) else none
theorem rcl_none {n : Nat} {r : Mat} : ∀ {c : Nat} (d : Nat), c ≤ d → rcl n c r = none → rcl n d r = none := by
  intro c d h e
  induction d with
  | zero => obtain rfl : c = 0 := by omega
            exact e
  | succ d ih =>
    by_cases q : c = d + 1
    · subst q; exact e
    · simp [rcl, ih (by omega)]
end Go.Proofs.YteifpplemohdcaaGreat

/-
  Both ways of closing are one: the program's, which gives up at the first clock that would be less than itself, and the document's, which looks behind each round.
-/
namespace Go.Proofs.YteifpplemohdcaaGreat
open Go.RowKit
set_option linter.unusedVariables false
def One (n : Nat) (p : Mat) : Prop := ∀ i, i ≤ n → p i i = 1
def Bad (n : Nat) (p : Mat) : Prop := ∃ i, i ≤ n ∧ p i i < 1
theorem rcStep_le (k i j : Nat) (p : Mat) (a : Nat) : rcStep k i j p a a ≤ p a a := by
  unfold rcStep
  split
  · unfold upd
    split
    · rename_i h e
      obtain ⟨rfl, rfl⟩ := e
      omega
    · omega
  · omega
theorem Bad.step {n : Nat} {p : Mat} (h : Bad n p) (k i j : Nat) : Bad n (rcStep k i j p) := by
  obtain ⟨a, ha, hb⟩ := h
  exact ⟨a, ha, by have := rcStep_le k i j p a; omega⟩
theorem Bad.row {n : Nat} {p : Mat} (h : Bad n p) (k i c : Nat) : Bad n (rcRow k i c p) := by
  induction c with
  | zero => exact h
  | succ c ih => exact ih.step _ _ _
theorem Bad.all {n : Nat} {p : Mat} (h : Bad n p) (k m c : Nat) : Bad n (rcAll k m c p) := by
  induction c with
  | zero => exact h
  | succ c ih => exact ih.row _ _ _
theorem step_both {n : Nat} {p : Mat} (h : One n p) (k i j : Nat) (hi : i ≤ n) (hj : j ≤ n) :
    (cbStep k i j p = some (rcStep k i j p) ∧ One n (rcStep k i j p)) ∨ (cbStep k i j p = none ∧ Bad n (rcStep k i j p)) := by
  unfold cbStep rcStep
  by_cases c : p i j ≤ dplus (p i k) (p k j)
  · rw [if_pos c, if_neg (by omega)]
    exact .inl ⟨rfl, h⟩
  · have c' : dplus (p i k) (p k j) < p i j := by omega
    rw [if_neg c, if_pos c']
    by_cases e : i = j
    · subst e
      rw [if_pos rfl]
      refine .inr ⟨rfl, i, hi, ?_⟩
      have := h i hi
      simp [upd]
      omega
    · rw [if_neg e]
      refine .inl ⟨rfl, fun a ha => ?_⟩
      have : ¬ (a = i ∧ a = j) := by omega
      simp [upd, this]
      exact h a ha
theorem row_both {n : Nat} {p : Mat} (h : One n p) (k i : Nat) (hi : i ≤ n) (c : Nat) (hc : c ≤ n + 1) :
    (cbRow k i c p = some (rcRow k i c p) ∧ One n (rcRow k i c p)) ∨ (cbRow k i c p = none ∧ Bad n (rcRow k i c p)) := by
  induction c with
  | zero => exact .inl ⟨rfl, h⟩
  | succ c ih =>
    rcases ih (by omega) with ⟨e, o⟩ | ⟨e, b⟩
    · rcases step_both o k i c hi (by omega) with ⟨e2, o2⟩ | ⟨e2, b2⟩
      · exact .inl ⟨by simp [cbRow, e, e2, rcRow], o2⟩
      · exact .inr ⟨by simp [cbRow, e, e2], b2⟩
    · exact .inr ⟨by simp [cbRow, e], b.step _ _ _⟩
theorem all_both {n : Nat} {p : Mat} (h : One n p) (k c : Nat) (hc : c ≤ n + 1) :
    (cbAll k n c p = some (rcAll k n c p) ∧ One n (rcAll k n c p)) ∨ (cbAll k n c p = none ∧ Bad n (rcAll k n c p)) := by
  induction c with
  | zero => exact .inl ⟨rfl, h⟩
  | succ c ih =>
    rcases ih (by omega) with ⟨e, o⟩ | ⟨e, b⟩
    · rcases row_both o k c (by omega) (n + 1) (Nat.le_refl _) with ⟨e2, o2⟩ | ⟨e2, b2⟩
      · exact .inl ⟨by simp [cbAll, e, e2, rcAll], o2⟩
      · exact .inr ⟨by simp [cbAll, e, e2], b2⟩
    · exact .inr ⟨by simp [cbAll, e], b.row _ _ _⟩
theorem diagOk_iff (n : Nat) (p : Mat) (c : Nat) : diagOk n p c = true ↔ ∀ i, i < c → 1 ≤ p i i := by
  induction c with
  | zero => simp [diagOk]
  | succ c ih =>
    simp only [diagOk, Bool.and_eq_true, ih, decide_eq_true_eq]
    constructor
    · rintro ⟨a, b⟩ i hi
      by_cases e : i = c
      · subst e; exact b
      · exact a i (by omega)
    · intro h
      exact ⟨fun i hi => h i (by omega), h c (by omega)⟩
theorem One.ok {n : Nat} {p : Mat} (h : One n p) : diagOk n p (n + 1) = true := (diagOk_iff _ _ _).2 fun i hi => by have := h i (by omega); omega
theorem Bad.no {n : Nat} {p : Mat} (h : Bad n p) : diagOk n p (n + 1) = false := by
  cases e : diagOk n p (n + 1)
  · rfl
  · obtain ⟨i, hi, hb⟩ := h
    have := (diagOk_iff _ _ _).1 e i (by omega)
    omega
theorem rounds_both {n : Nat} {r : Mat} (h : One n r) (c : Nat) (hc : c ≤ n + 1) : clAll n c r = rcl n c r ∧ ∀ q, rcl n c r = some q → One n q := by
  induction c with
  | zero => exact ⟨rfl, fun q e => by simp [rcl] at e; subst e; exact h⟩
  | succ c ih =>
    obtain ⟨e, o⟩ := ih (by omega)
    cases er : rcl n c r with
    | none => simp [clAll, rcl, e, er]
    | some q =>
      rcases all_both (o q er) c (n + 1) (Nat.le_refl _) with ⟨e2, o2⟩ | ⟨e2, b2⟩
      · have k := o2.ok
        refine ⟨by simp [clAll, rcl, e, er, e2, k], fun q' h' => ?_⟩
        simp [rcl, er, k] at h'
        subst h'
        exact o2
      · have k := b2.no
        exact ⟨by simp [clAll, rcl, e, er, e2, k], fun q' h' => by simp [rcl, er, k] at h'⟩
/-- A matrix whose own differences are at most 0 is closed alike by both. -/
theorem close_both {n : Nat} {r : Mat} (h : ∀ i, i ≤ n → r i i ≤ 1) : closeR n r = rcl n (n + 1) r := by
  unfold closeR
  cases d : diagOk n r (n + 1)
  · simp only [Bool.false_eq_true, if_false]
    have b : Bad n r := by
      apply Classical.byContradiction
      intro hb
      have : diagOk n r (n + 1) = true := (diagOk_iff _ _ _).2 fun i hi => by
        apply Classical.byContradiction
        intro q
        exact hb ⟨i, by omega, by omega⟩
      rw [this] at d
      cases d
    symm
    refine rcl_none (c := 1) (n + 1) (by omega) ?_
    have k := (b.all 0 n (n + 1)).no
    simp [rcl, k]
  · simp only [if_true]
    have o : One n r := fun i hi => by
      have := (diagOk_iff _ _ _).1 d i (by omega)
      have := h i hi
      omega
    exact (rounds_both o (n + 1) (Nat.le_refl _)).1
end Go.Proofs.YteifpplemohdcaaGreat

/-
  The document's answer for layer 3: the empty zone.
-/
namespace Go.Proofs.YteifpplemohdcaaGreat
open Go.RowKit
set_option linter.unusedVariables false
set_option maxRecDepth 100000
/-! ### made -/
theorem step_own {P : Program} {ops : Array Oper} {o : Oper} {a : Act} {w : World} {K : Act → World → Prop} {Q : Exit → Act → World → Prop} {E : Prop} (hgd : o.guard = none) (s x : Operand) (t : TypeId)
    (ho : o.op = .call { callee := .builtin .append, args := #[s, x], argTypes := #[t, t] })
    (base : Nat) (e : TypeId) (i : TypeInfo) (z : Value) (size bytes : Nat) (ht : P.underlying t = some (.slice e)) (hi : P.info? e = some i) (hz : i.zero = some z)
    (hsize : i.size = size) (hby : i.bytes = bytes) (hzs : z.cells.size = size) (hsz : 0 < size)
    (v : Value) (n : Nat) (xs : List Value) (hs : a.eval s = v) (hown : w.ownsRow base e size v n xs)
    (ad : Addr) (m c : Nat) (news : List Value) (hx : a.eval x = .slice (some ad) m c) (hl : news.length = m * size) (hnews : ∀ j u, news[j]? = some u → w.cell? (ad.add j) = some u) (h1 : ∀ u ∈ news, u.oneCell' = true)
    (h63 : n + m ≤ maxLen) (hbytes : (n + m) * bytes ≤ 140737488355328) (hbase : base ≤ w.heap.size)
    (hK : ∀ v' w', w'.ownsRow base e size v' (n + m) (xs ++ news) → w.grownBy w' v.ownBlock → K (a.put o.dst v') w') :
    if Region.wanted o (yielded ops a.tmps) = true then Oper.wp P o a w K Q else E := by
  have hw : Region.wanted o (yielded ops a.tmps) = true := by simp [Region.wanted, hgd]
  rw [if_pos hw]
  exact wp_append_own w s x t ho base e i z size bytes ht hi hz hsize hby hzs hsz v n xs hs hown ad m c news hx hl hnews h1 h63 hbytes hbase fun v' w' h2 h3 _ => hK v' w' h2 h3
end Go.Proofs.YteifpplemohdcaaGreat

/-
  The program's zone of a row of bounds, and the document's, are one.
-/
namespace Go.Proofs.YteifpplemohdcaaGreat
open Go.RowKit
set_option linter.unusedVariables false
def tgV (a x : Int) : Int := if x = 2147483647 then a else min a x
theorem tgAll_at (n : Nat) (l : List Int) (r : Mat) (k : Nat) (hk : k ≤ (n + 1) * (n + 1)) (i j : Nat) :
    tgAll n l k r i j = if i ≤ n ∧ j ≤ n ∧ i * (n + 1) + j < k then tgV (r i j) (l.getD (i * (n + 1) + j) 0) else r i j := by
  induction k with
  | zero => simp [tgAll]
  | succ k ih =>
    have ih := ih (by omega)
    have d1 : k / (n + 1) ≤ n := by have := Nat.div_lt_of_lt_mul (show k < (n + 1) * (n + 1) by omega); omega
    have d2 : k % (n + 1) ≤ n := by have := Nat.mod_lt k (show 0 < n + 1 by omega); omega
    have d3 : k / (n + 1) * (n + 1) + k % (n + 1) = k := by rw [Nat.mul_comm]; exact Nat.div_add_mod k (n + 1)
    by_cases e : i = k / (n + 1) ∧ j = k % (n + 1)
    · obtain ⟨rfl, rfl⟩ := e
      rw [if_neg (by rw [d3]; omega)] at ih
      rw [if_pos ⟨d1, d2, by rw [d3]; omega⟩, d3]
      simp only [tgAll, tg, tgV]
      split
      · exact ih
      · simp [upd, ih]
    · have e2 : tgAll n l (k + 1) r i j = tgAll n l k r i j := by
        simp only [tgAll, tg]
        split
        · rfl
        · simp [upd, e]
      rw [e2, ih]
      congr 1
      apply propext
      constructor
      · rintro ⟨a, b, c⟩
        exact ⟨a, b, by omega⟩
      · rintro ⟨a, b, c⟩
        refine ⟨a, b, ?_⟩
        apply Classical.byContradiction
        intro q
        have : i * (n + 1) + j = k / (n + 1) * (n + 1) + k % (n + 1) := by omega
        exact e (pos_inj b d2 this)
end Go.Proofs.YteifpplemohdcaaGreat
