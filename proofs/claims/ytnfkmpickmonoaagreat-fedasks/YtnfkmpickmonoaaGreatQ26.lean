/-
  fed: the document's Cell, Meets, Common for zones.
-/
import Derived.Test.YtnfkmpickmonoaaGreatQ23
import Derived.Test.YtnfkmpickmonoaaGreatQ25
import Derived.Test.YtnfkmpickmonoaaGreatQ19
namespace Go.Proofs.YtnfkmpickmonoaaGreat
open Go.RowKit Go.Shelf
set_option linter.unusedVariables false
set_option maxRecDepth 100000
theorem zc_zone7 {n m : Nat} {c : Row} (hn : n ≤ 8) (hm : m = (n + 1) * (n + 1)) (h : ZC n m c) : zoneR n (drf n m (listOf c m)) = some c := by
  rcases h with rfl | ⟨p, hp⟩
  · refine zone_hollow ?_
    rw [drf_at n m _ hm 0 0 (by omega) (by omega), listOf_get _ _ _ (show 0 * (n + 1) + 0 < m by rw [hm, Nat.zero_mul, Nat.zero_add]; exact Nat.mul_pos (Nat.succ_pos n) (Nat.succ_pos n))]
    decide
  · have e : ∀ i j, i ≤ n → j ≤ n → drf n m (listOf c m) i j = p i j := fun i j hi hj => by
      rw [drf_at n m _ hm i j hi hj, listOf_get _ _ _ (by rw [hm]; exact pos_lt hi hj), ← oR_at (c := c) hm hi hj]
      exact hp.pm hm hi hj
    have rR : RightL m (listOf c m) := fun k hk => by
      rw [listOf_get _ _ _ hk]
      have := zc_right hm (.inr ⟨p, hp⟩ : ZC n m c) k
      simpa only [rightB, decide_eq_true_eq] using this
    have O := drf_ok n m _ hm rR
    obtain ⟨p', h1, h2⟩ := close_above hn hp.cl O (fun i j hi hj => by rw [e i j hi hj]; exact Int.le_refl _)
    have R := close_rounds hn O.fin O.diag h1
    have eq : ∀ i j, i ≤ n → j ≤ n → p' i j = p i j := fun i j hi hj => Int.le_antisymm (by have := R.le i j hi hj; rw [e i j hi hj] at this; exact this) (h2 i j hi hj)
    have n1 : narAll n p' ((n + 1) * (n + 1)) = true := by rw [narAll_congr eq _ (Nat.le_refl _), ← hm]; exact hp.nar
    have n2 : cellsUpto n p' ((n + 1) * (n + 1)) = c := by rw [cellsUpto_congr eq _ (Nat.le_refl _), ← hm]; exact hp.cells.symm
    simp [zoneR, h1, n1, n2]
theorem zc_made {n m : Nat} {c : Row} (hn : n ≤ 8) (hm : m = (n + 1) * (n + 1)) (h : ZC n m c) : Made n c :=
  ⟨drf n m (listOf c m), fun i hi => drf_diag n m _ hm (fun k hk => by
    rw [listOf_get _ _ _ hk]
    have := zc_right hm h k
    simpa only [rightB, decide_eq_true_eq] using this) i hi, zc_zone7 hn hm h⟩
theorem RZone_head {w : World} {B b n m : Nat} {e : Row} (h : RZone w B b n (listOf e m)) (hm : 0 < m) :
    Calls Tryz.prog 33 #[.pointer (some ⟨b, 0, none⟩)] w fun x w' => x = .returned (.bool (e 0 != 1)) ∧ w' = w := by
  have := rempty_any h (by rw [listOf_len]; exact hm)
  rw [listOf_get _ _ _ hm] at this
  exact this
set_option maxHeartbeats 2000000 in
theorem rmeets_any {w : World} {B b o n m : Nat} {c d : Row} (h1 : RZone w B b n (listOf c m)) (h2 : RZone w B o n (listOf d m)) (hn : n ≤ 8) (hm : m = (n + 1) * (n + 1)) (hc : Made n c) (hd : Made n d) :
    Calls Tryz.prog 95 #[.pointer (some ⟨b, 0, none⟩), .pointer (some ⟨o, 0, none⟩)] w fun e w' => e = .returned (.bool (meetsOf (zoneR n (tgAll n (listOf (minR c d) m) m (startR n (n + 1) 0))))) ∧ Below w.heap.size w w' := by
  have hp : 0 < m := by rw [hm]; exact Nat.mul_pos (by omega) (by omega)
  have HA := hideD (ralike_same h1 h2)
  have HC : Hid (∀ k, Calls Tryz.prog 125 #[.pointer (some ⟨b, 0, none⟩), .pointer (some ⟨o, 0, none⟩)] (w.drewN k) fun e w' => (∃ B', RZoneOut w' B' n e ((zoneR n (tgAll n (listOf (minR c d) m) m (startR n (n + 1) 0))).map (fun c => listOf c m))) ∧ Below (w.drewN k).heap.size (w.drewN k) w') := fun k => rcommon_any (h1.past (below_draw w k)) (h2.past (below_draw w k)) hn hm hc hd
  clear h1 h2 hm hc hd
  generalize zoneR n (tgAll n (listOf (minR c d) m) m (startR n (n + 1) 0)) = Z at *
  go_enter Tryz.func95, Tryz.ntmps95
  go_wp2_with fail
  refine HA.out.mono ?_
  rintro e w1 ⟨rfl, k, rfl⟩
  have H := hideD (HC.out k)
  have B1 := hideD (below_draw w k)
  generalize w.drewN k = w1 at *
  clear HC HA
  go_wp2_with fail
  refine H.out.mono ?_
  rintro e w2 ⟨⟨B', hz⟩, hb⟩
  have B2 := hideD (beyondD B1.out hb)
  clear H hb B1
  cases Z with
  | none =>
    obtain rfl := hz
    go_wp2_with fail
    go_ret
    exact ⟨rfl, B2.out⟩
  | some f =>
    obtain ⟨b', rfl, hz⟩ := hz
    have HE := hideD (RZone_head hz hp)
    have HM : Hid (meetsOf (some f) = !(f 0 != 1)) := rfl
    generalize (f 0 != 1) = y at *
    clear hz
    cases y with
    | true =>
      go_wp2_with fail
      refine HE.out.mono ?_
      rintro e w3 ⟨rfl, rfl⟩
      go_wp2_with fail
      go_ret
      exact ⟨by rw [HM.out]; rfl, B2.out⟩
    | false =>
      go_wp2_with fail
      refine HE.out.mono ?_
      rintro e w3 ⟨rfl, rfl⟩
      go_wp2_with fail
      go_ret
      exact ⟨by rw [HM.out]; rfl, B2.out⟩
theorem metB_meets {n m : Nat} {c d : Row} (hn : n ≤ 8) (hm : m = (n + 1) * (n + 1)) (hc : ZC n m c) (hd : ZC n m d) : metB n m c d = meetsOf (zoneR n (tgAll n (listOf (minR c d) m) m (startR n (n + 1) 0))) := by
  unfold metB
  rw [tgAll_two n m c d _ hm (fun j => ((zc_made hn hm hc).range j).2) (fun j => ((zc_made hn hm hd).range j).2)]
  refine meets_same n _ (fun i hi => start_diag n _ m hm (fun j hj => ?_) i hi)
  rw [listOf_get _ _ _ hj]
  have := (zc_made hn hm hc).range j
  unfold minR
  omega
theorem rmeets_zc {w : World} {B b o n m : Nat} {c d : Row} (h1 : RZone w B b n (listOf c m)) (h2 : RZone w B o n (listOf d m)) (hn : n ≤ 8) (hm : m = (n + 1) * (n + 1)) (hc : ZC n m c) (hd : ZC n m d) :
    Calls Tryz.prog 95 #[.pointer (some ⟨b, 0, none⟩), .pointer (some ⟨o, 0, none⟩)] w fun e w' => e = .returned (.bool (metB n m c d)) ∧ Below w.heap.size w w' := by
  have h := rmeets_any h1 h2 hn hm (zc_made hn hm hc) (zc_made hn hm hd)
  rw [metB_meets hn hm hc hd]
  exact h
theorem rcellz {w : World} {B b n m i j : Nat} {c : Row} (h : RZone w B b n (listOf c m)) (hn : n ≤ 8) (hm : m = (n + 1) * (n + 1)) (hi : i ≤ n) (hj : j ≤ n) :
    Calls Tryz.prog 92 #[.pointer (some ⟨b, 0, none⟩), .int .i64 (i : Int), .int .i64 (j : Int)] w fun e w' => e = .returned (.tuple #[.int .i32 (c (i * (n + 1) + j)), .int .i64 0]) ∧ Below w.heap.size w w' := by
  obtain ⟨g, cap, h0, h1, -, -, R⟩ := h
  rw [listOf_len] at h1
  have lt : i * (n + 1) + j < m := by rw [hm]; exact pos_lt hi hj
  have h2 := R (i * (n + 1) + j) (by rw [listOf_len]; exact lt)
  rw [listOf_get _ _ _ lt, Nat.zero_add] at h2
  exact rcell_in b g n i j m cap _ w hn hi hj hm h0 h1 h2
theorem rempty_zc {w : World} {B b n m : Nat} {c : Row} (h : RZone w B b n (listOf c m)) (hm : m = (n + 1) * (n + 1)) (hc : ZC n m c) :
    Calls Tryz.prog 33 #[.pointer (some ⟨b, 0, none⟩)] w fun e w' => e = .returned (.bool (decide (c 0 < 1))) ∧ w' = w := by
  have hp : 0 < m := by rw [hm]; exact Nat.mul_pos (by omega) (by omega)
  have e : (c 0 != 1) = decide (c 0 < 1) := by
    rcases zc01' hm hc with q | q <;> rw [q] <;> decide
  rw [← e]
  exact RZone_head h hp
end Go.Proofs.YtnfkmpickmonoaaGreat

/-
  fed: what is left of a zone by the document: the row that grows, and what is told.
-/
namespace Go.Proofs.YtnfkmpickmonoaaGreat
open Go.RowKit Go.Shelf
set_option linter.unusedVariables false
set_option maxRecDepth 100000
/-- A row of the document's zones that is the call's own. -/
structure DR (H n m : Nat) (cs : List Row) (v : Value) (w W : World) : Prop where
  rs : ∃ rs : List RZR, W.ownsRow H 44 1 v rs.length (rs.map pvR7) ∧ (rs.length = 0 → v = .slice none 0 0) ∧ rs.map (·.2) = cs.map (fun c => listOf c m) ∧ ∀ e ∈ rs, RZone W 0 e.1 n e.2
  ok : ∀ c ∈ cs, ZC n m c ∧ ¬ c 0 < 1
  below : Below H w W
theorem zlen7 {n m : Nat} (hm : m = (n + 1) * (n + 1)) : 0 < m := by rw [hm]; exact Nat.mul_pos (by omega) (by omega)
theorem rs_len {m : Nat} {cs : List Row} {rs : List RZR} (h : rs.map (·.2) = cs.map (fun c => listOf c m)) : rs.length = cs.length := by
  have := congrArg List.length h
  simpa using this
theorem rs_cell {m : Nat} {cs : List Row} {rs : List RZR} (hm : 0 < m) (h : rs.map (·.2) = cs.map (fun c => listOf c m)) {e : RZR} (he : e ∈ rs) : 0 < e.2.length := by
  have : e.2 ∈ cs.map (fun c => listOf c m) := by rw [← h]; exact List.mem_map.2 ⟨e, he, rfl⟩
  obtain ⟨c, -, hc⟩ := List.mem_map.1 this
  rw [← hc, listOf_len]
  exact hm
theorem pr_ptr {rs : List RZR} : ∀ u ∈ rs.map pvR7, ∃ p, u = .pointer p := fun u hu => by
  obtain ⟨e, -, rfl⟩ := List.mem_map.1 hu
  exact ⟨_, rfl⟩
theorem DR.past {H n m : Nat} {cs : List Row} {v : Value} {w A B : World} (h : DR H n m cs v w A) (hb : Below A.heap.size A B) (hH : H ≤ A.heap.size) : DR H n m cs v w B := by
  obtain ⟨⟨rs, h1, h2, h3, h4⟩, h5, h6⟩ := h
  exact ⟨⟨rs, own_past h1 hb, h2, h3, fun e he => (h4 e he).past hb⟩, h5, h6.trans (hb.mono hH)⟩
theorem DR.more {H n m pb : Nat} {c : Row} {cs : List Row} {v v' : Value} {w A A' W : World} {rs : List RZR} (hm : 0 < m) (h1 : A.ownsRow H 44 1 v rs.length (rs.map pvR7)) (h2 : rs.length = 0 → v = .slice none 0 0) (h3 : rs.map (·.2) = cs.map (fun c => listOf c m)) (h4 : ∀ e ∈ rs, RZone A 0 e.1 n e.2)
    (h5 : ∀ c ∈ cs, ZC n m c ∧ ¬ c 0 < 1) (h6 : Below H w A) (hH : H ≤ A.heap.size) (hz : RZone A 0 pb n (listOf c m)) (zc : ZC n m c) (c0 : ¬ c 0 < 1) (bA : Below A.heap.size A A')
    (hown : W.ownsRow H 44 1 v' (rs.length + 1) (rs.map pvR7 ++ [.pointer (some ⟨pb, 0, none⟩)])) (hgr : A'.grownBy W v.ownBlock) :
    DR H n m (cs ++ [c]) v' w W ∧ (∀ b n' l, 0 < l.length → RZone A 0 b n' l → RZone W 0 b n' l) ∧ Below H w W := by
  have ow : ∀ k, v.ownBlock = some k → H ≤ k := fun k e => (own_blk h1 e).1
  have P := own_ptr (own_past h1 bA) pr_ptr h2
  have K : ∀ b n' l, 0 < l.length → RZone A 0 b n' l → RZone W 0 b n' l := fun b n' l hl h => (h.past bA).sameX (SameC.grown7 hgr) P hl
  have b2 : Below H w W := (h6.trans (bA.mono hH)).grown hgr (Nat.le_trans hH bA.size) ow
  refine ⟨⟨⟨rs ++ [(pb, listOf c m)], ?_, fun h => by simp at h, ?_, fun e he => ?_⟩, fun x hx => ?_, b2⟩, K, b2⟩
  · rw [List.length_append, List.map_append]
    exact hown
  · rw [List.map_append, List.map_append, h3]
    rfl
  · rcases List.mem_append.1 he with q | q
    · exact K _ _ _ (rs_cell hm h3 q) (h4 e q)
    · rw [List.mem_singleton.1 q]
      exact K _ _ _ (by rw [listOf_len]; exact hm) hz
  · rcases List.mem_append.1 hx with q | q
    · exact h5 x q
    · rw [List.mem_singleton.1 q]
      exact ⟨zc, c0⟩
/-! ### What is told -/
def allT (n m : Nat) (c d : Row) (s0 : List Row) : List Row × Int := layL (s0, 0) (leftL n m c d (List.range m)).1
/-- So many cells are done. -/
def DL (n m : Nat) (c d : Row) (s0 : List Row) (K : Nat) (x : Row) (cs : List Row) : Prop := ∃ ys, leftL n m c d (List.range K) = (ys, some x) ∧ layL (s0, 0) ys = (s0 ++ cs, 0)
/-- The part of a cell is laid. -/
def DM (n m : Nat) (c d : Row) (s0 : List Row) (K : Nat) (x o : Row) (cs : List Row) : Prop := ∃ ys, leftL n m c d (List.range K) = (ys, some x) ∧ ¬ x K ≤ d K ∧ conZ n m x (K % (n + 1) * (n + 1) + K / (n + 1)) (1 - d K) = some o ∧ layL (s0, 0) (ys ++ [(some o, 0)]) = (s0 ++ cs, 0)
theorem left_next {n m : Nat} {c d : Row} {K : Nat} {ys : List YS} {x : Row} (h : leftL n m c d (List.range K) = (ys, some x)) : leftL n m c d (List.range (K + 1)) = lStep n m d K ys x := by
  rw [List.range_succ, leftL_snoc, h]
  rfl
theorem range_split {K m : Nat} (h : K ≤ m) : ∃ js, List.range m = List.range K ++ js := by
  obtain ⟨k, rfl⟩ : ∃ k, m = K + k := ⟨m - K, by omega⟩
  exact ⟨_, List.range_add⟩
theorem all_pre {n m : Nat} {c d : Row} {s0 : List Row} {K : Nat} (h : K ≤ m) {ps : List YS} {t : List Row × Int} (hp : ps <+: (leftL n m c d (List.range K)).1) (ht : layL (s0, 0) ps = t) (h0 : t.2 ≠ 0) : allT n m c d s0 = t := by
  obtain ⟨js, e⟩ := range_split h
  unfold allT
  rw [e]
  exact layL_pre (hp.trans (leftL_grows _ js)) ht h0
theorem DL.skip {n m : Nat} {c d : Row} {s0 : List Row} {K : Nat} {x : Row} {cs : List Row} (h : DL n m c d s0 K x cs) (hk : x K ≤ d K) : DL n m c d s0 (K + 1) x cs := by
  obtain ⟨ys, h1, h2⟩ := h
  refine ⟨ys, ?_, h2⟩
  rw [left_next h1]
  unfold lStep
  rw [if_pos hk]
theorem DL.err {n m : Nat} {c d : Row} {s0 : List Row} {K : Nat} {x : Row} {cs : List Row} (h : DL n m c d s0 K x cs) (hk : ¬ x K ≤ d K) (hc : conZ n m x (K % (n + 1) * (n + 1) + K / (n + 1)) (1 - d K) = none) (hK : K < m) : (allT n m c d s0).2 = 10 := by
  obtain ⟨ys, h1, h2⟩ := h
  have e : layL (s0, 0) (ys ++ [(none, 10)]) = (s0 ++ cs, 10) := by
    rw [layL_snoc, h2]
    rfl
  rw [all_pre (K := K + 1) (by omega) (ps := ys ++ [(none, 10)]) ?_ e (by simp)]
  rw [left_next h1]
  unfold lStep
  rw [if_neg hk, hc]
  exact List.prefix_refl _
theorem step_pre {n m : Nat} {c d : Row} {K : Nat} {ys : List YS} {x o : Row} (h1 : leftL n m c d (List.range K) = (ys, some x)) (hk : ¬ x K ≤ d K) (hc : conZ n m x (K % (n + 1) * (n + 1) + K / (n + 1)) (1 - d K) = some o) : ys ++ [(some o, 0)] <+: (leftL n m c d (List.range (K + 1))).1 := by
  rw [left_next h1]
  unfold lStep
  rw [if_neg hk, hc]
  cases conZ n m x K (d K) with
  | none => exact List.prefix_append _ _
  | some x' => exact List.prefix_refl _
theorem DL.empty {n m : Nat} {c d : Row} {s0 : List Row} {K : Nat} {x o : Row} {cs : List Row} (h : DL n m c d s0 K x cs) (hk : ¬ x K ≤ d K) (hc : conZ n m x (K % (n + 1) * (n + 1) + K / (n + 1)) (1 - d K) = some o) (h0 : o 0 < 1) : DM n m c d s0 K x o cs := by
  obtain ⟨ys, h1, h2⟩ := h
  refine ⟨ys, h1, hk, hc, ?_⟩
  rw [layL_snoc, h2]
  simp [layS, h0]
theorem DL.full {n m : Nat} {c d : Row} {s0 : List Row} {K : Nat} {x o : Row} {cs : List Row} (h : DL n m c d s0 K x cs) (hk : ¬ x K ≤ d K) (hc : conZ n m x (K % (n + 1) * (n + 1) + K / (n + 1)) (1 - d K) = some o) (h0 : ¬ o 0 < 1) (hl : s0.length + cs.length = 4096) (hK : K < m) : (allT n m c d s0).2 = 3 := by
  obtain ⟨ys, h1, h2⟩ := h
  have e : layL (s0, 0) (ys ++ [(some o, 0)]) = (s0 ++ cs, 3) := by
    rw [layL_snoc, h2]
    simp [layS, h0, hl]
  rw [all_pre (K := K + 1) (by omega) (step_pre h1 hk hc) e (by simp)]
theorem DL.more {n m : Nat} {c d : Row} {s0 : List Row} {K : Nat} {x o : Row} {cs : List Row} (h : DL n m c d s0 K x cs) (hk : ¬ x K ≤ d K) (hc : conZ n m x (K % (n + 1) * (n + 1) + K / (n + 1)) (1 - d K) = some o) (h0 : ¬ o 0 < 1) (hl : s0.length + cs.length ≠ 4096) : DM n m c d s0 K x o (cs ++ [o]) := by
  obtain ⟨ys, h1, h2⟩ := h
  refine ⟨ys, h1, hk, hc, ?_⟩
  rw [layL_snoc, h2]
  simp [layS, h0, hl]
theorem DM.err {n m : Nat} {c d : Row} {s0 : List Row} {K : Nat} {x o : Row} {cs : List Row} (h : DM n m c d s0 K x o cs) (hd : conZ n m x K (d K) = none) (hK : K < m) : (allT n m c d s0).2 = 10 := by
  obtain ⟨ys, h1, hk, hc, h2⟩ := h
  have e : layL (s0, 0) (ys ++ [(some o, 0)] ++ [(none, 10)]) = (s0 ++ cs, 10) := by
    rw [layL_snoc, h2]
    rfl
  rw [all_pre (K := K + 1) (by omega) (ps := ys ++ [(some o, 0)] ++ [(none, 10)]) ?_ e (by simp)]
  rw [left_next h1]
  unfold lStep
  rw [if_neg hk, hc, hd]
  exact List.prefix_refl _
theorem DM.next {n m : Nat} {c d : Row} {s0 : List Row} {K : Nat} {x o x' : Row} {cs : List Row} (h : DM n m c d s0 K x o cs) (hd : conZ n m x K (d K) = some x') : DL n m c d s0 (K + 1) x' cs := by
  obtain ⟨ys, h1, hk, hc, h2⟩ := h
  refine ⟨ys ++ [(some o, 0)], ?_, h2⟩
  rw [left_next h1]
  unfold lStep
  rw [if_neg hk, hc, hd]
theorem DL.done {n m : Nat} {c d : Row} {s0 : List Row} {x : Row} {cs : List Row} (h : DL n m c d s0 m x cs) : allT n m c d s0 = (s0 ++ cs, 0) := by
  obtain ⟨ys, h1, h2⟩ := h
  unfold allT
  rw [h1]
  exact h2
/-- What less tells. -/
def LessOut (H n m : Nat) (s0 : List Row) (s : List Row × Int) (e : Ending) (w W : World) : Prop :=
  (s.2 ≠ 0 ∧ e = .returned (.tuple #[.slice none 0 0, .int .i64 s.2])) ∨ (s.2 = 0 ∧ ∃ cs v, s.1 = s0 ++ cs ∧ e = .returned (.tuple #[v, .int .i64 0]) ∧ DR H n m cs v w W)
theorem met_full {n m : Nat} {c d : Row} (hn : n ≤ 8) (hm : m = (n + 1) * (n + 1)) (hc : ZC n m c) (hd : ZC n m d) (h : metB n m c d = true) : ¬ d 0 < 1 := fun h0 => by
  rw [metB_meets hn hm hc hd] at h
  have mp := zlen7 hm
  have z : zoneR n (tgAll n (listOf (minR c d) m) m (startR n (n + 1) 0)) = some (fun _ => 0) := by
    refine zone_hollow ?_
    have e := drf_at n m (listOf (minR c d) m) hm 0 0 (by omega) (by omega)
    rw [show 0 * (n + 1) + 0 = 0 by omega, listOf_get _ _ _ mp] at e
    show drf n m (listOf (minR c d) m) 0 0 < 1
    rw [e]
    unfold tgV minR
    split <;> omega
  rw [z] at h
  exact absurd h (by decide)
theorem full_diag {n m i : Nat} {p : Mat} {d : Row} (hm : m = (n + 1) * (n + 1)) (hd : FullC n m p d) (hi : i ≤ n) : d (i * (n + 1) + i) = 1 := by
  rw [hd.at hm hi hi, hd.cl.one i hi]
  rfl
theorem zc_diag {n m i : Nat} {x d : Row} (hm : m = (n + 1) * (n + 1)) (hx : ZC n m x) (hd : ZC n m d) (h0 : ¬ d 0 < 1) (hi : i ≤ n) : x (i * (n + 1) + i) ≤ d (i * (n + 1) + i) := by
  rcases hd with rfl | ⟨p, hp⟩
  · exact absurd (by decide) h0
  · rw [full_diag hm hp hi]
    rcases hx with rfl | ⟨q, hq⟩
    · show (0 : Int) ≤ 1
      decide
    · rw [full_diag hm hq hi]
      exact Int.le_refl _
end Go.Proofs.YtnfkmpickmonoaaGreat
