/-
  The contract of 'both' for every number and every row of bounds, and the walk of the statement DbmCells.
-/
import Derived.Test.YtnfkmpickmonoaaGreatQ8
import Derived.OpenShut
import Derived.Test.YtnfkmpickmonoaaGreatQ4
namespace Go.Proofs.YtnfkmpickmonoaaGreat
open Go.RowKit
set_option linter.unusedVariables false
set_option maxRecDepth 100000
/-- A slice that was handed in reads as these bounds. -/
def SliceAt (w : World) (v : Value) (l : List Int) : Prop := (∃ ad c, v = .slice ad 0 c ∧ l = []) ∨ (∃ b off cap, v = .slice (some ⟨b, off, none⟩) l.length cap ∧ ∀ j, j < l.length → w.cell? ⟨b, off + j, none⟩ = some (.int .i32 (l.getD j 0)))
/-- Cells that a zone can have. -/
def Made (n : Nat) (c : Row) : Prop := ∃ r : Mat, (∀ i, i ≤ n → r i i ≤ 1) ∧ zoneR n r = some c
end Go.Proofs.YtnfkmpickmonoaaGreat

/-
  The contracts of alike with nil, of Includes, Equal, Meets of zones that are not alike; of tightenAll, and of Meets.
-/
namespace Go.Proofs.YtnfkmpickmonoaaGreat
open Go.RowKit
set_option linter.unusedVariables false
set_option maxRecDepth 100000
set_option maxHeartbeats 2000000 in
theorem tightenAll_any (b z n m : Nat) (r : Mat) (c : Row) (w : World) (h : n ≤ 8) (hm : m = (n + 1) * (n + 1)) (hD : Draft w b n r) (hZ : ZoneAt w z n c) (hzb : z < b) (hr : ∀ j, -2147483648 ≤ c j ∧ c j ≤ 2147483647) :
    Calls Tryz.prog 108 #[.pointer (some ⟨b, 0, none⟩), .pointer (some ⟨z, 0, none⟩)] w fun e w' => e = .returned (.tuple #[]) ∧ Draft w' b n (tgAll n (listOf c m) m r) ∧ Below b w w' := by
  have HU := hideD (used_any z n w h hZ.clocks)
  rw [← hm] at HU
  have m81 : m ≤ 81 := by rw [hm]; exact Nat.mul_le_mul (show n + 1 ≤ 9 by omega) (show n + 1 ≤ 9 by omega)
  have HQ : Hid (∀ k, k < m → k / (n + 1) ≤ n ∧ k % (n + 1) ≤ n) := fun k hk => ⟨by have := Nat.div_lt_of_lt_mul (hm ▸ hk); omega, by have := Nat.mod_lt k (show 0 < n + 1 by omega); omega⟩
  have HP : Hid (∀ (k : Nat) w, k < m → Calls Tryz.prog 38 #[.agg #[.int .i64 n], .int .i64 k] w fun e w' => e = .returned (.tuple #[.int .i64 ((k / (n + 1) : Nat) : Int), .int .i64 ((k % (n + 1) : Nat) : Int)]) ∧ Below w.heap.size w w') := fun k w hk => place_any n k w h (by omega)
  have HN : Hid (∀ K, K < m → tgAll n (listOf c m) (K + 1) r = tg (tgAll n (listOf c m) K r) (K / (n + 1)) (K % (n + 1)) (c K)) := fun K hK => by
    show tg _ _ _ _ = _
    rw [listOf_get _ _ _ hK]
  have HI := hideD hr
  clear hm hr
  have m1 : (m : Int) ≤ 81 := by omega
  have HD0 := hideD hD
  have HZ0 := hideD hZ
  clear hD hZ
  generalize listOf c m = L at *
  go_enter Tryz.func108, Tryz.ntmps108
  go_wp2_with fail
  refine HU.out.mono ?_
  rintro e w1 ⟨rfl, hb⟩
  have hD1 := hideD (HD0.out.later hb HD0.out.lt)
  have hZ1 := hideD (HZ0.out.past hb)
  have hB1 := hideD (hb.mono (Nat.le_of_lt HD0.out.lt))
  clear hb HU HD0 HZ0
  go_wp2_with fail
  go_loopw [11] (fun s wr => ∃ (K : Nat), K ≤ m ∧ s = .int .i64 K ∧ Hid (Draft wr b n (tgAll n L K r)) ∧ Hid (ZoneAt wr z n c) ∧ Hid (Below b w wr)) (fun s _ => m - (intOf s).toNat)
  case atStart => exact ⟨0, by omega, rfl, hD1, hZ1, hB1⟩
  case round =>
    obtain ⟨K, hK, rfl, hD, hZ, hB⟩ := hrel
    clear hD1 hZ1 hB1
    by_cases ck : K < m
    · have a1 := hZ.out.cell K (by omega)
      have a0 := hZ.out.clocks
      have nx := hideD (HN.out K ck)
      obtain ⟨x0, x1⟩ := HI.out K
      obtain ⟨i1, j1⟩ := HQ.out K ck
      have HPK : Hid (∀ w, Calls Tryz.prog 38 #[.agg #[.int .i64 n], .int .i64 K] w fun e w' => e = .returned (.tuple #[.int .i64 ((K / (n + 1) : Nat) : Int), .int .i64 ((K % (n + 1) : Nat) : Int)]) ∧ Below w.heap.size w w') := fun w => HP.out K w ck
      have i0 : (0 : Int) ≤ (K : Int) := by omega
      have i2 : (K : Int) < (m : Int) := by omega
      generalize K / (n + 1) = i at *
      generalize K % (n + 1) = j at *
      generalize c K = x at *
      go_wp2_with fail
      refine (HPK.out _).mono ?_
      rintro e' w4 ⟨rfl, hb⟩
      have hD4 := hideD (hD.out.later hb hD.out.lt)
      have hZ4 := hideD (hZ.out.past hb)
      have hB4 := hideD (hB.out.trans (hb.mono (Nat.le_of_lt hD.out.lt)))
      have HT := hideD (tighten_any b n i j _ x w4 hD4.out (by omega) (by omega) x0 x1)
      clear hb hD hB hZ a0 a1
      go_wp2_with fail
      refine HT.out.mono ?_
      rintro e' w5 ⟨rfl, hd, hb⟩
      have hD5 := hideD hd
      have hB5 := hideD (hB4.out.trans hb)
      have hZ5 := hideD (hZ4.out.later hb hzb)
      clear hd hb hB4 hZ4
      go_wp2_with fail
      go_roundw
      case rel => exact ⟨K + 1, by omega, by go_num, by rw [nx.out]; exact hD5, hZ5, hB5⟩
      case measure => simp [intOf]; omega
    · have st : Hid (K = m) := by show K = m; omega
      have hD' : Hid (Draft wr b n (tgAll n L m r)) := by have e := st.out; subst e; exact hD
      go_wp2_with fail
      go_end0
      exact ⟨rfl, hD'.out, hB.out⟩
set_option maxHeartbeats 2000000 in
theorem meets_any (b o n m : Nat) (c d : Row) (w : World) (hz : ZoneAt w b n c) (hy : ZoneAt w o n d) (hn : n ≤ 8) (hm : m = (n + 1) * (n + 1)) (hc : ∀ j, -2147483648 ≤ c j ∧ c j ≤ 2147483647) (hd : ∀ j, -2147483648 ≤ d j ∧ d j ≤ 2147483647) :
    Calls Tryz.prog 79 #[.pointer (some ⟨b, 0, none⟩), .pointer (some ⟨o, 0, none⟩)] w fun e w' => e = .returned (.bool (closeR n (tgAll n (listOf d m) m (tgAll n (listOf c m) m (startR n (n + 1) 0)))).isSome) ∧ Below w.heap.size w w' := by
  have HA := hideD (alike_same b o n c d w hz hy)
  have T : Hid (∀ B z r e w, Draft w B n r → ZoneAt w z n e → z < B → (∀ j, -2147483648 ≤ e j ∧ e j ≤ 2147483647) → Calls Tryz.prog 108 #[.pointer (some ⟨B, 0, none⟩), .pointer (some ⟨z, 0, none⟩)] w fun x w' => x = .returned (.tuple #[]) ∧ Draft w' B n (tgAll n (listOf e m) m r) ∧ Below B w w') := fun B z r e w h1 h2 h3 h4 => tightenAll_any B z n m r e w hn hm h1 h2 h3 h4
  have HCl : Hid (∀ B r w, Draft w B n r → Calls Tryz.prog 61 #[.pointer (some ⟨B, 0, none⟩)] w fun e w' => e = .returned (.bool (closeR n r).isSome) ∧ Below B w w' ∧ (∃ s, Draft w' B n s ∧ ∀ s', closeR n r = some s' → s' = s)) := fun B r w h => close_any B n r w hn h
  have HC0 := hideD hc
  have HD0 := hideD hd
  have HZ := hideD hz
  have HY := hideD hy
  clear hz hy hm hc hd
  go_enter Tryz.func79, Tryz.ntmps79
  go_wp2_with fail
  refine HA.out.mono ?_
  rintro e w1 ⟨rfl, k, rfl⟩
  have HZ1 := hideD (HZ.out.drewN k)
  have HY1 := hideD (HY.out.drewN k)
  have B1 := hideD (below_draw w k)
  generalize w.drewN k = W at *
  have a0 := HZ1.out.clocks
  clear HZ HY HA
  have DR := hideD (draftOf_any n W hn)
  go_wp2_with fail
  refine DR.out.mono ?_
  rintro e w2 ⟨rfl, hD, hb⟩
  have HZ2 := hideD (HZ1.out.past hb)
  have HY2 := hideD (HY1.out.past hb)
  have lz := HZ1.out.lt
  have ly := HY1.out.lt
  have B2 := hideD (beyondD B1.out hb)
  have T1 := hideD (T.out _ _ _ _ _ hD HZ2.out lz HC0.out)
  have LE := hideD B1.out.size
  generalize W.heap.size = B at *
  clear hb hD a0 DR HZ1 HY1 B1
  go_wp2_with fail
  refine T1.out.mono ?_
  rintro e w3 ⟨rfl, hD, hb⟩
  have HY3 := hideD (HY2.out.later hb ly)
  have B3 := hideD (B2.out.trans (hb.mono LE.out))
  have T2 := hideD (T.out _ _ _ _ _ hD HY3.out ly HD0.out)
  clear T1 hb hD HY2 HZ2 B2
  go_wp2_with fail
  refine T2.out.mono ?_
  rintro e w4 ⟨rfl, hD, hb⟩
  have B4 := hideD (B3.out.trans (hb.mono LE.out))
  have C := hideD (HCl.out _ _ _ hD)
  clear T2 hb hD B3 HY3
  go_wp2_with fail
  refine C.out.mono ?_
  rintro e w5 ⟨rfl, hb, -⟩
  go_wp2_with fail
  go_ret
  exact ⟨rfl, B4.out.trans (hb.mono LE.out)⟩
end Go.Proofs.YtnfkmpickmonoaaGreat

/-
  What cells of zones are; what both say of zones.
-/
namespace Go.Proofs.YtnfkmpickmonoaaGreat
open Go.RowKit
set_option linter.unusedVariables false
set_option maxRecDepth 100000
theorem narB_range (x : Int) : -2147483648 ≤ narB x ∧ narB x ≤ 2147483647 := by
  unfold narB
  split
  · omega
  · split <;> omega
theorem narB_right (x : Int) : rightB (narB x) = true := by
  unfold narB rightB
  split
  · simp
  · split
    · simp
    · simp; omega
theorem Made.range {n : Nat} {c : Row} (h : Made n c) (j : Nat) : -2147483648 ≤ c j ∧ c j ≤ 2147483647 := by
  obtain ⟨r, -, h⟩ := h
  unfold zoneR at h
  split at h
  · cases h
    exact ⟨by show (-2147483648 : Int) ≤ 0; omega, by show (0 : Int) ≤ 2147483647; omega⟩
  · split at h
    · cases h
      unfold cellsUpto
      split
      · exact narB_range _
      · omega
    · cases h
theorem tgV_two (a x y : Int) (hx : x ≤ 2147483647) (hy : y ≤ 2147483647) : tgV (tgV a x) y = tgV a (min x y) := by
  unfold tgV
  by_cases c1 : x = 2147483647
  · by_cases c2 : y = 2147483647
    · simp [c1, c2]
    · rw [if_pos c1, if_neg c2, show min x y = y by omega, if_neg c2]
  · by_cases c2 : y = 2147483647
    · rw [if_neg c1, if_pos c2, show min x y = x by omega, if_neg c1]
    · rw [if_neg c1, if_neg c2, if_neg (by omega)]
      omega
def minR (c d : Row) : Row := fun j => min (c j) (d j)
theorem tgAll_two (n m : Nat) (c d : Row) (r : Mat) (hm : m = (n + 1) * (n + 1)) (hc : ∀ j, c j ≤ 2147483647) (hd : ∀ j, d j ≤ 2147483647) :
    tgAll n (listOf d m) m (tgAll n (listOf c m) m r) = tgAll n (listOf (minR c d) m) m r := by
  funext i j
  have hk : m ≤ (n + 1) * (n + 1) := by omega
  rw [tgAll_at _ _ _ _ hk, tgAll_at _ _ _ _ hk, tgAll_at _ _ _ _ hk]
  by_cases q : i ≤ n ∧ j ≤ n ∧ i * (n + 1) + j < m
  · rw [if_pos q, if_pos q, if_pos q, listOf_get _ _ _ q.2.2, listOf_get _ _ _ q.2.2, listOf_get _ _ _ q.2.2]
    exact tgV_two _ _ _ (hc _) (hd _)
  · rw [if_neg q, if_neg q, if_neg q]
theorem allRight_of (l : List Int) (m : Nat) (h : ∀ j, j < m → rightB (l.getD j 0) = true) : allRight l m = true := by
  induction m with
  | zero => rfl
  | succ m ih => simp only [allRight, ih (fun j hj => h j (by omega)), h m (by omega), Bool.and_self]
/-! ### Equal -/
/-! ### Includes -/
theorem nless_iff (c d : Row) (m : Nat) : nless c d m = true ↔ ∀ j, j < m → d j ≤ c j := by
  induction m with
  | zero => simp [nless]
  | succ m ih =>
    simp only [nless, Bool.and_eq_true, ih, decide_eq_true_eq]
    constructor
    · rintro ⟨a, b⟩ j hj
      by_cases e : j = m
      · subst e; exact b
      · exact a j (by omega)
    · intro h
      exact ⟨fun j hj => h j (by omega), h m (by omega)⟩
end Go.Proofs.YtnfkmpickmonoaaGreat
