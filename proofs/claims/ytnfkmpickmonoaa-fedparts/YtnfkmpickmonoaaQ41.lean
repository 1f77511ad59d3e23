/-
  fed: what is left of a zone by the document: the row that grows, and what is told.
-/
import Derived.Test.YtnfkmpickmonoaaQ40
import Derived.Test.YtnfkmpickmonoaaQ31
namespace Go.Proofs.Ytnfkmpickmonoaa
open Go.RowKit Go.Shelf
set_option linter.unusedVariables false
set_option maxRecDepth 100000
/-- A row of the document's zones that is the call's own. -/
structure DR (H n m : Nat) (cs : List Row) (v : Value) (w W : World) : Prop where
  rs : ∃ rs : List RZR, W.ownsRow H 34 1 v rs.length (rs.map pvR7) ∧ (rs.length = 0 → v = .slice none 0 0) ∧ rs.map (·.2) = cs.map (fun c => listOf c m) ∧ ∀ e ∈ rs, RZone W 0 e.1 n e.2
  ok : ∀ c ∈ cs, ZC n m c ∧ ¬ c 0 < 1
  below : Below H w W
theorem zlen7 {n m : Nat} (hm : m = (n + 1) * (n + 1)) : 0 < m := by rw [hm]; exact Nat.mul_pos (by omega) (by omega)
theorem rs_len {m : Nat} {cs : List Row} {rs : List RZR} (h : rs.map (·.2) = cs.map (fun c => listOf c m)) : rs.length = cs.length := by
  have := congrArg List.length h
  simpa using this
theorem rs_cell {m : Nat} {cs : List Row} {rs : List RZR} (hm : 0 < m) (h : rs.map (·.2) = cs.map (fun c => listOf c m)) {e : RZR} (he : e ∈ rs) : 0 < e.2.length := by
  have : e.2 ∈ cs.map (fun c => listOf c m) := by rw [← h]; exact List.mem_map.2 ⟨e, he, rfl⟩
  obtain ⟨c, -, hc⟩ := List.mem_map.1 this
  rw [← hc, listOf_len]
  exact hm
theorem pr_ptr {rs : List RZR} : ∀ u ∈ rs.map pvR7, ∃ p, u = .pointer p := fun u hu => by
  obtain ⟨e, -, rfl⟩ := List.mem_map.1 hu
  exact ⟨_, rfl⟩
theorem DR.past {H n m : Nat} {cs : List Row} {v : Value} {w A B : World} (h : DR H n m cs v w A) (hb : Below A.heap.size A B) (hH : H ≤ A.heap.size) : DR H n m cs v w B := by
  obtain ⟨⟨rs, h1, h2, h3, h4⟩, h5, h6⟩ := h
  exact ⟨⟨rs, own_past h1 hb, h2, h3, fun e he => (h4 e he).past hb⟩, h5, h6.trans (hb.mono hH)⟩
theorem DR.more {H n m pb : Nat} {c : Row} {cs : List Row} {v v' : Value} {w A A' W : World} {rs : List RZR} (hm : 0 < m) (h1 : A.ownsRow H 34 1 v rs.length (rs.map pvR7)) (h2 : rs.length = 0 → v = .slice none 0 0) (h3 : rs.map (·.2) = cs.map (fun c => listOf c m)) (h4 : ∀ e ∈ rs, RZone A 0 e.1 n e.2)
    (h5 : ∀ c ∈ cs, ZC n m c ∧ ¬ c 0 < 1) (h6 : Below H w A) (hH : H ≤ A.heap.size) (hz : RZone A 0 pb n (listOf c m)) (zc : ZC n m c) (c0 : ¬ c 0 < 1) (bA : Below A.heap.size A A')
    (hown : W.ownsRow H 34 1 v' (rs.length + 1) (rs.map pvR7 ++ [.pointer (some ⟨pb, 0, none⟩)])) (hgr : A'.grownBy W v.ownBlock) :
    DR H n m (cs ++ [c]) v' w W ∧ (∀ b n' l, 0 < l.length → RZone A 0 b n' l → RZone W 0 b n' l) ∧ Below H w W := by
  have ow : ∀ k, v.ownBlock = some k → H ≤ k := fun k e => (own_blk h1 e).1
  have P := own_ptr (own_past h1 bA) pr_ptr h2
  have K : ∀ b n' l, 0 < l.length → RZone A 0 b n' l → RZone W 0 b n' l := fun b n' l hl h => (h.past bA).sameX (SameC.grown7 hgr) P hl
  have b2 : Below H w W := (h6.trans (bA.mono hH)).grown hgr (Nat.le_trans hH bA.size) ow
  refine ⟨⟨⟨rs ++ [(pb, listOf c m)], ?_, fun h => by simp at h, ?_, fun e he => ?_⟩, fun x hx => ?_, b2⟩, K, b2⟩
  · rw [List.length_append, List.map_append]
    exact hown
  · rw [List.map_append, List.map_append, h3]
    rfl
  · rcases List.mem_append.1 he with q | q
    · exact K _ _ _ (rs_cell hm h3 q) (h4 e q)
    · rw [List.mem_singleton.1 q]
      exact K _ _ _ (by rw [listOf_len]; exact hm) hz
  · rcases List.mem_append.1 hx with q | q
    · exact h5 x q
    · rw [List.mem_singleton.1 q]
      exact ⟨zc, c0⟩
/-! ### What is told -/
def allT (n m : Nat) (c d : Row) (s0 : List Row) : List Row × Int := layL (s0, 0) (leftL n m c d (List.range m)).1
/-- So many cells are done. -/
def DL (n m : Nat) (c d : Row) (s0 : List Row) (K : Nat) (x : Row) (cs : List Row) : Prop := ∃ ys, leftL n m c d (List.range K) = (ys, some x) ∧ layL (s0, 0) ys = (s0 ++ cs, 0)
/-- The part of a cell is laid. -/
def DM (n m : Nat) (c d : Row) (s0 : List Row) (K : Nat) (x o : Row) (cs : List Row) : Prop := ∃ ys, leftL n m c d (List.range K) = (ys, some x) ∧ ¬ x K ≤ d K ∧ conZ n m x (K % (n + 1) * (n + 1) + K / (n + 1)) (1 - d K) = some o ∧ layL (s0, 0) (ys ++ [(some o, 0)]) = (s0 ++ cs, 0)
theorem left_next {n m : Nat} {c d : Row} {K : Nat} {ys : List YS} {x : Row} (h : leftL n m c d (List.range K) = (ys, some x)) : leftL n m c d (List.range (K + 1)) = lStep n m d K ys x := by
  rw [List.range_succ, leftL_snoc, h]
  rfl
theorem range_split {K m : Nat} (h : K ≤ m) : ∃ js, List.range m = List.range K ++ js := by
  obtain ⟨k, rfl⟩ : ∃ k, m = K + k := ⟨m - K, by omega⟩
  exact ⟨_, List.range_add⟩
theorem all_pre {n m : Nat} {c d : Row} {s0 : List Row} {K : Nat} (h : K ≤ m) {ps : List YS} {t : List Row × Int} (hp : ps <+: (leftL n m c d (List.range K)).1) (ht : layL (s0, 0) ps = t) (h0 : t.2 ≠ 0) : allT n m c d s0 = t := by
  obtain ⟨js, e⟩ := range_split h
  unfold allT
  rw [e]
  exact layL_pre (hp.trans (leftL_grows _ js)) ht h0
theorem DL.skip {n m : Nat} {c d : Row} {s0 : List Row} {K : Nat} {x : Row} {cs : List Row} (h : DL n m c d s0 K x cs) (hk : x K ≤ d K) : DL n m c d s0 (K + 1) x cs := by
  obtain ⟨ys, h1, h2⟩ := h
  refine ⟨ys, ?_, h2⟩
  rw [left_next h1]
  unfold lStep
  rw [if_pos hk]
theorem DL.err {n m : Nat} {c d : Row} {s0 : List Row} {K : Nat} {x : Row} {cs : List Row} (h : DL n m c d s0 K x cs) (hk : ¬ x K ≤ d K) (hc : conZ n m x (K % (n + 1) * (n + 1) + K / (n + 1)) (1 - d K) = none) (hK : K < m) : (allT n m c d s0).2 = 10 := by
  obtain ⟨ys, h1, h2⟩ := h
  have e : layL (s0, 0) (ys ++ [(none, 10)]) = (s0 ++ cs, 10) := by
    rw [layL_snoc, h2]
    rfl
  rw [all_pre (K := K + 1) (by omega) (ps := ys ++ [(none, 10)]) ?_ e (by simp)]
  rw [left_next h1]
  unfold lStep
  rw [if_neg hk, hc]
  exact List.prefix_refl _
theorem step_pre {n m : Nat} {c d : Row} {K : Nat} {ys : List YS} {x o : Row} (h1 : leftL n m c d (List.range K) = (ys, some x)) (hk : ¬ x K ≤ d K) (hc : conZ n m x (K % (n + 1) * (n + 1) + K / (n + 1)) (1 - d K) = some o) : ys ++ [(some o, 0)] <+: (leftL n m c d (List.range (K + 1))).1 := by
  rw [left_next h1]
  unfold lStep
  rw [if_neg hk, hc]
  cases conZ n m x K (d K) with
  | none => exact List.prefix_append _ _
  | some x' => exact List.prefix_refl _
theorem DL.empty {n m : Nat} {c d : Row} {s0 : List Row} {K : Nat} {x o : Row} {cs : List Row} (h : DL n m c d s0 K x cs) (hk : ¬ x K ≤ d K) (hc : conZ n m x (K % (n + 1) * (n + 1) + K / (n + 1)) (1 - d K) = some o) (h0 : o 0 < 1) : DM n m c d s0 K x o cs := by
  obtain ⟨ys, h1, h2⟩ := h
  refine ⟨ys, h1, hk, hc, ?_⟩
  rw [layL_snoc, h2]
  simp [layS, h0]
theorem DL.full {n m : Nat} {c d : Row} {s0 : List Row} {K : Nat} {x o : Row} {cs : List Row} (h : DL n m c d s0 K x cs) (hk : ¬ x K ≤ d K) (hc : conZ n m x (K % (n + 1) * (n + 1) + K / (n + 1)) (1 - d K) = some o) (h0 : ¬ o 0 < 1) (hl : s0.length + cs.length = 4096) (hK : K < m) : (allT n m c d s0).2 = 3 := by
  obtain ⟨ys, h1, h2⟩ := h
  have e : layL (s0, 0) (ys ++ [(some o, 0)]) = (s0 ++ cs, 3) := by
    rw [layL_snoc, h2]
    simp [layS, h0, hl]
  rw [all_pre (K := K + 1) (by omega) (step_pre h1 hk hc) e (by simp)]
theorem DL.more {n m : Nat} {c d : Row} {s0 : List Row} {K : Nat} {x o : Row} {cs : List Row} (h : DL n m c d s0 K x cs) (hk : ¬ x K ≤ d K) (hc : conZ n m x (K % (n + 1) * (n + 1) + K / (n + 1)) (1 - d K) = some o) (h0 : ¬ o 0 < 1) (hl : s0.length + cs.length ≠ 4096) : DM n m c d s0 K x o (cs ++ [o]) := by
  obtain ⟨ys, h1, h2⟩ := h
  refine ⟨ys, h1, hk, hc, ?_⟩
  rw [layL_snoc, h2]
  simp [layS, h0, hl]
theorem DM.err {n m : Nat} {c d : Row} {s0 : List Row} {K : Nat} {x o : Row} {cs : List Row} (h : DM n m c d s0 K x o cs) (hd : conZ n m x K (d K) = none) (hK : K < m) : (allT n m c d s0).2 = 10 := by
  obtain ⟨ys, h1, hk, hc, h2⟩ := h
  have e : layL (s0, 0) (ys ++ [(some o, 0)] ++ [(none, 10)]) = (s0 ++ cs, 10) := by
    rw [layL_snoc, h2]
    rfl
  rw [all_pre (K := K + 1) (by omega) (ps := ys ++ [(some o, 0)] ++ [(none, 10)]) ?_ e (by simp)]
  rw [left_next h1]
  unfold lStep
  rw [if_neg hk, hc, hd]
  exact List.prefix_refl _
theorem DM.next {n m : Nat} {c d : Row} {s0 : List Row} {K : Nat} {x o x' : Row} {cs : List Row} (h : DM n m c d s0 K x o cs) (hd : conZ n m x K (d K) = some x') : DL n m c d s0 (K + 1) x' cs := by
  obtain ⟨ys, h1, hk, hc, h2⟩ := h
  refine ⟨ys ++ [(some o, 0)], ?_, h2⟩
  rw [left_next h1]
  unfold lStep
  rw [if_neg hk, hc, hd]
theorem DL.done {n m : Nat} {c d : Row} {s0 : List Row} {x : Row} {cs : List Row} (h : DL n m c d s0 m x cs) : allT n m c d s0 = (s0 ++ cs, 0) := by
  obtain ⟨ys, h1, h2⟩ := h
  unfold allT
  rw [h1]
  exact h2
/-- What less tells. -/
def LessOut (H n m : Nat) (s0 : List Row) (s : List Row × Int) (e : Ending) (w W : World) : Prop :=
  (s.2 ≠ 0 ∧ e = .returned (.tuple #[.slice none 0 0, .int .i64 s.2])) ∨ (s.2 = 0 ∧ ∃ cs v, s.1 = s0 ++ cs ∧ e = .returned (.tuple #[v, .int .i64 0]) ∧ DR H n m cs v w W)
theorem met_full {n m : Nat} {c d : Row} (hn : n ≤ 8) (hm : m = (n + 1) * (n + 1)) (hc : ZC n m c) (hd : ZC n m d) (h : metB n m c d = true) : ¬ d 0 < 1 := fun h0 => by
  rw [metB_meets hn hm hc hd] at h
  have mp := zlen7 hm
  have z : zoneR n (tgAll n (listOf (minR c d) m) m (startR n (n + 1) 0)) = some (fun _ => 0) := by
    refine zone_hollow ?_
    have e := drf_at n m (listOf (minR c d) m) hm 0 0 (by omega) (by omega)
    rw [show 0 * (n + 1) + 0 = 0 by omega, listOf_get _ _ _ mp] at e
    show drf n m (listOf (minR c d) m) 0 0 < 1
    rw [e]
    unfold tgV minR
    split <;> omega
  rw [z] at h
  exact absurd h (by decide)
theorem full_diag {n m i : Nat} {p : Mat} {d : Row} (hm : m = (n + 1) * (n + 1)) (hd : FullC n m p d) (hi : i ≤ n) : d (i * (n + 1) + i) = 1 := by
  rw [hd.at hm hi hi, hd.cl.one i hi]
  rfl
theorem zc_diag {n m i : Nat} {x d : Row} (hm : m = (n + 1) * (n + 1)) (hx : ZC n m x) (hd : ZC n m d) (h0 : ¬ d 0 < 1) (hi : i ≤ n) : x (i * (n + 1) + i) ≤ d (i * (n + 1) + i) := by
  rcases hd with rfl | ⟨p, hp⟩
  · exact absurd (by decide) h0
  · rw [full_diag hm hp hi]
    rcases hx with rfl | ⟨q, hq⟩
    · show (0 : Int) ≤ 1
      decide
    · rw [full_diag hm hq hi]
      exact Int.le_refl _
end Go.Proofs.Ytnfkmpickmonoaa
