/-
  The contract of 'both' for every number and every row of bounds, and the walk of the statement DbmCells.
-/
import Derived.Test.YtnfkmpickmonoaaGreatQ7
import Derived.OpenShut
import Derived.Test.YtnfkmpickmonoaaGreatQ4
import Derived.Test.YtnfkmpickmonoaaGreatQ9
namespace Go.Proofs.YtnfkmpickmonoaaGreat
open Go.RowKit
set_option linter.unusedVariables false
set_option maxRecDepth 100000
/-- A slice that was handed in reads as these bounds. -/
def SliceAt (w : World) (v : Value) (l : List Int) : Prop := (∃ ad c, v = .slice ad 0 c ∧ l = []) ∨ (∃ b off cap, v = .slice (some ⟨b, off, none⟩) l.length cap ∧ ∀ j, j < l.length → w.cell? ⟨b, off + j, none⟩ = some (.int .i32 (l.getD j 0)))
/-- Cells that a zone can have. -/
def Made (n : Nat) (c : Row) : Prop := ∃ r : Mat, (∀ i, i ≤ n → r i i ≤ 1) ∧ zoneR n r = some c
end Go.Proofs.YtnfkmpickmonoaaGreat

/-
  The contracts of alike with nil, of Includes, Equal, Meets of zones that are not alike; of tightenAll, and of Meets.
-/
namespace Go.Proofs.YtnfkmpickmonoaaGreat
open Go.RowKit
set_option linter.unusedVariables false
set_option maxRecDepth 100000
set_option maxHeartbeats 2000000 in
theorem tightenAll_any (b z n m : Nat) (r : Mat) (c : Row) (w : World) (h : n ≤ 8) (hm : m = (n + 1) * (n + 1)) (hD : Draft w b n r) (hZ : ZoneAt w z n c) (hzb : z < b) (hr : ∀ j, -2147483648 ≤ c j ∧ c j ≤ 2147483647) :
    Calls Tryz.prog 108 #[.pointer (some ⟨b, 0, none⟩), .pointer (some ⟨z, 0, none⟩)] w fun e w' => e = .returned (.tuple #[]) ∧ Draft w' b n (tgAll n (listOf c m) m r) ∧ Below b w w' := by
  have HU := hideD (used_any z n w h hZ.clocks)
  rw [← hm] at HU
  have m81 : m ≤ 81 := by rw [hm]; exact Nat.mul_le_mul (show n + 1 ≤ 9 by omega) (show n + 1 ≤ 9 by omega)
  have HQ : Hid (∀ k, k < m → k / (n + 1) ≤ n ∧ k % (n + 1) ≤ n) := fun k hk => ⟨by have := Nat.div_lt_of_lt_mul (hm ▸ hk); omega, by have := Nat.mod_lt k (show 0 < n + 1 by omega); omega⟩
  have HP : Hid (∀ (k : Nat) w, k < m → Calls Tryz.prog 38 #[.agg #[.int .i64 n], .int .i64 k] w fun e w' => e = .returned (.tuple #[.int .i64 ((k / (n + 1) : Nat) : Int), .int .i64 ((k % (n + 1) : Nat) : Int)]) ∧ Below w.heap.size w w') := fun k w hk => place_any n k w h (by omega)
  have HN : Hid (∀ K, K < m → tgAll n (listOf c m) (K + 1) r = tg (tgAll n (listOf c m) K r) (K / (n + 1)) (K % (n + 1)) (c K)) := fun K hK => by
    show tg _ _ _ _ = _
    rw [listOf_get _ _ _ hK]
  have HI := hideD hr
  clear hm hr
  have m1 : (m : Int) ≤ 81 := by omega
  have HD0 := hideD hD
  have HZ0 := hideD hZ
  clear hD hZ
  generalize listOf c m = L at *
  go_enter Tryz.func108, Tryz.ntmps108
  go_wp2_with fail
  refine HU.out.mono ?_
  rintro e w1 ⟨rfl, hb⟩
  have hD1 := hideD (HD0.out.later hb HD0.out.lt)
  have hZ1 := hideD (HZ0.out.past hb)
  have hB1 := hideD (hb.mono (Nat.le_of_lt HD0.out.lt))
  clear hb HU HD0 HZ0
  go_wp2_with fail
  go_loopw [11] (fun s wr => ∃ (K : Nat), K ≤ m ∧ s = .int .i64 K ∧ Hid (Draft wr b n (tgAll n L K r)) ∧ Hid (ZoneAt wr z n c) ∧ Hid (Below b w wr)) (fun s _ => m - (intOf s).toNat)
  case atStart => exact ⟨0, by omega, rfl, hD1, hZ1, hB1⟩
  case round =>
    obtain ⟨K, hK, rfl, hD, hZ, hB⟩ := hrel
    clear hD1 hZ1 hB1
    by_cases ck : K < m
    · have a1 := hZ.out.cell K (by omega)
      have a0 := hZ.out.clocks
      have nx := hideD (HN.out K ck)
      obtain ⟨x0, x1⟩ := HI.out K
      obtain ⟨i1, j1⟩ := HQ.out K ck
      have HPK : Hid (∀ w, Calls Tryz.prog 38 #[.agg #[.int .i64 n], .int .i64 K] w fun e w' => e = .returned (.tuple #[.int .i64 ((K / (n + 1) : Nat) : Int), .int .i64 ((K % (n + 1) : Nat) : Int)]) ∧ Below w.heap.size w w') := fun w => HP.out K w ck
      have i0 : (0 : Int) ≤ (K : Int) := by omega
      have i2 : (K : Int) < (m : Int) := by omega
      generalize K / (n + 1) = i at *
      generalize K % (n + 1) = j at *
      generalize c K = x at *
      go_wp2_with fail
      refine (HPK.out _).mono ?_
      rintro e' w4 ⟨rfl, hb⟩
      have hD4 := hideD (hD.out.later hb hD.out.lt)
      have hZ4 := hideD (hZ.out.past hb)
      have hB4 := hideD (hB.out.trans (hb.mono (Nat.le_of_lt hD.out.lt)))
      have HT := hideD (tighten_any b n i j _ x w4 hD4.out (by omega) (by omega) x0 x1)
      clear hb hD hB hZ a0 a1
      go_wp2_with fail
      refine HT.out.mono ?_
      rintro e' w5 ⟨rfl, hd, hb⟩
      have hD5 := hideD hd
      have hB5 := hideD (hB4.out.trans hb)
      have hZ5 := hideD (hZ4.out.later hb hzb)
      clear hd hb hB4 hZ4
      go_wp2_with fail
      go_roundw
      case rel => exact ⟨K + 1, by omega, by go_num, by rw [nx.out]; exact hD5, hZ5, hB5⟩
      case measure => simp [intOf]; omega
    · have st : Hid (K = m) := by show K = m; omega
      have hD' : Hid (Draft wr b n (tgAll n L m r)) := by have e := st.out; subst e; exact hD
      go_wp2_with fail
      go_end0
      exact ⟨rfl, hD'.out, hB.out⟩
set_option maxHeartbeats 2000000 in
theorem meets_any (b o n m : Nat) (c d : Row) (w : World) (hz : ZoneAt w b n c) (hy : ZoneAt w o n d) (hn : n ≤ 8) (hm : m = (n + 1) * (n + 1)) (hc : ∀ j, -2147483648 ≤ c j ∧ c j ≤ 2147483647) (hd : ∀ j, -2147483648 ≤ d j ∧ d j ≤ 2147483647) :
    Calls Tryz.prog 79 #[.pointer (some ⟨b, 0, none⟩), .pointer (some ⟨o, 0, none⟩)] w fun e w' => e = .returned (.bool (closeR n (tgAll n (listOf d m) m (tgAll n (listOf c m) m (startR n (n + 1) 0)))).isSome) ∧ Below w.heap.size w w' := by
  have HA := hideD (alike_same b o n c d w hz hy)
  have T : Hid (∀ B z r e w, Draft w B n r → ZoneAt w z n e → z < B → (∀ j, -2147483648 ≤ e j ∧ e j ≤ 2147483647) → Calls Tryz.prog 108 #[.pointer (some ⟨B, 0, none⟩), .pointer (some ⟨z, 0, none⟩)] w fun x w' => x = .returned (.tuple #[]) ∧ Draft w' B n (tgAll n (listOf e m) m r) ∧ Below B w w') := fun B z r e w h1 h2 h3 h4 => tightenAll_any B z n m r e w hn hm h1 h2 h3 h4
  have HCl : Hid (∀ B r w, Draft w B n r → Calls Tryz.prog 61 #[.pointer (some ⟨B, 0, none⟩)] w fun e w' => e = .returned (.bool (closeR n r).isSome) ∧ Below B w w' ∧ (∃ s, Draft w' B n s ∧ ∀ s', closeR n r = some s' → s' = s)) := fun B r w h => close_any B n r w hn h
  have HC0 := hideD hc
  have HD0 := hideD hd
  have HZ := hideD hz
  have HY := hideD hy
  clear hz hy hm hc hd
  go_enter Tryz.func79, Tryz.ntmps79
  go_wp2_with fail
  refine HA.out.mono ?_
  rintro e w1 ⟨rfl, k, rfl⟩
  have HZ1 := hideD (HZ.out.drewN k)
  have HY1 := hideD (HY.out.drewN k)
  have B1 := hideD (below_draw w k)
  generalize w.drewN k = W at *
  have a0 := HZ1.out.clocks
  clear HZ HY HA
  have DR := hideD (draftOf_any n W hn)
  go_wp2_with fail
  refine DR.out.mono ?_
  rintro e w2 ⟨rfl, hD, hb⟩
  have HZ2 := hideD (HZ1.out.past hb)
  have HY2 := hideD (HY1.out.past hb)
  have lz := HZ1.out.lt
  have ly := HY1.out.lt
  have B2 := hideD (beyondD B1.out hb)
  have T1 := hideD (T.out _ _ _ _ _ hD HZ2.out lz HC0.out)
  have LE := hideD B1.out.size
  generalize W.heap.size = B at *
  clear hb hD a0 DR HZ1 HY1 B1
  go_wp2_with fail
  refine T1.out.mono ?_
  rintro e w3 ⟨rfl, hD, hb⟩
  have HY3 := hideD (HY2.out.later hb ly)
  have B3 := hideD (B2.out.trans (hb.mono LE.out))
  have T2 := hideD (T.out _ _ _ _ _ hD HY3.out ly HD0.out)
  clear T1 hb hD HY2 HZ2 B2
  go_wp2_with fail
  refine T2.out.mono ?_
  rintro e w4 ⟨rfl, hD, hb⟩
  have B4 := hideD (B3.out.trans (hb.mono LE.out))
  have C := hideD (HCl.out _ _ _ hD)
  clear T2 hb hD B3 HY3
  go_wp2_with fail
  refine C.out.mono ?_
  rintro e w5 ⟨rfl, hb, -⟩
  go_wp2_with fail
  go_ret
  exact ⟨rfl, B4.out.trans (hb.mono LE.out)⟩
end Go.Proofs.YtnfkmpickmonoaaGreat

/-
  What cells of zones are; what both say of zones.
-/
namespace Go.Proofs.YtnfkmpickmonoaaGreat
open Go.RowKit
set_option linter.unusedVariables false
set_option maxRecDepth 100000
theorem narB_range (x : Int) : -2147483648 ≤ narB x ∧ narB x ≤ 2147483647 := by
  unfold narB
  split
  · omega
  · split <;> omega
theorem narB_right (x : Int) : rightB (narB x) = true := by
  unfold narB rightB
  split
  · simp
  · split
    · simp
    · simp; omega
theorem Made.range {n : Nat} {c : Row} (h : Made n c) (j : Nat) : -2147483648 ≤ c j ∧ c j ≤ 2147483647 := by
  obtain ⟨r, -, h⟩ := h
  unfold zoneR at h
  split at h
  · cases h
    exact ⟨by show (-2147483648 : Int) ≤ 0; omega, by show (0 : Int) ≤ 2147483647; omega⟩
  · split at h
    · cases h
      unfold cellsUpto
      split
      · exact narB_range _
      · omega
    · cases h
theorem Made.right {n : Nat} {c : Row} (h : Made n c) (j : Nat) : rightB (c j) = true := by
  obtain ⟨r, -, h⟩ := h
  unfold zoneR at h
  split at h
  · cases h
    rfl
  · split at h
    · cases h
      unfold cellsUpto
      split
      · exact narB_right _
      · rfl
    · cases h
theorem close_one {n : Nat} {r p : Mat} (h : ∀ i, i ≤ n → r i i ≤ 1) (e : closeR n r = some p) : One n p := by
  have e' := e
  rw [close_both h] at e'
  unfold closeR at e
  cases d : diagOk n r (n + 1)
  · rw [d] at e
    cases e
  · have o : One n r := fun i hi => by
      have := (diagOk_iff _ _ _).1 d i (by omega)
      have := h i hi
      omega
    exact (rounds_both o (n + 1) (Nat.le_refl _)).2 p e'
theorem narB_one : narB 1 = 1 := by decide
theorem tgV_two (a x y : Int) (hx : x ≤ 2147483647) (hy : y ≤ 2147483647) : tgV (tgV a x) y = tgV a (min x y) := by
  unfold tgV
  by_cases c1 : x = 2147483647
  · by_cases c2 : y = 2147483647
    · simp [c1, c2]
    · rw [if_pos c1, if_neg c2, show min x y = y by omega, if_neg c2]
  · by_cases c2 : y = 2147483647
    · rw [if_neg c1, if_pos c2, show min x y = x by omega, if_neg c1]
    · rw [if_neg c1, if_neg c2, if_neg (by omega)]
      omega
def minR (c d : Row) : Row := fun j => min (c j) (d j)
theorem tgAll_two (n m : Nat) (c d : Row) (r : Mat) (hm : m = (n + 1) * (n + 1)) (hc : ∀ j, c j ≤ 2147483647) (hd : ∀ j, d j ≤ 2147483647) :
    tgAll n (listOf d m) m (tgAll n (listOf c m) m r) = tgAll n (listOf (minR c d) m) m r := by
  funext i j
  have hk : m ≤ (n + 1) * (n + 1) := by omega
  rw [tgAll_at _ _ _ _ hk, tgAll_at _ _ _ _ hk, tgAll_at _ _ _ _ hk]
  by_cases q : i ≤ n ∧ j ≤ n ∧ i * (n + 1) + j < m
  · rw [if_pos q, if_pos q, if_pos q, listOf_get _ _ _ q.2.2, listOf_get _ _ _ q.2.2, listOf_get _ _ _ q.2.2]
    exact tgV_two _ _ _ (hc _) (hd _)
  · rw [if_neg q, if_neg q, if_neg q]
theorem allRight_of (l : List Int) (m : Nat) (h : ∀ j, j < m → rightB (l.getD j 0) = true) : allRight l m = true := by
  induction m with
  | zero => rfl
  | succ m ih => simp only [allRight, ih (fun j hj => h j (by omega)), h m (by omega), Bool.and_self]
/-- What the document's Meets says of the answer of Of. -/
def meetsOf : Option Row → Bool
  | none => true
  | some e => !(e 0 != 1)
theorem meets_same (n : Nat) (r : Mat) (h : ∀ i, i ≤ n → r i i ≤ 1) : (closeR n r).isSome = meetsOf (zoneR n r) := by
  unfold zoneR
  cases e : closeR n r with
  | none => rfl
  | some p =>
    show true = meetsOf (if _ then _ else _)
    split
    · have := close_one h e 0 (by omega)
      show true = !(cellsUpto n p ((n + 1) * (n + 1)) 0 != 1)
      unfold cellsUpto flat
      rw [if_pos (Nat.mul_pos (by omega) (by omega)), Nat.zero_div, Nat.zero_mod, this, narB_one]
      rfl
    · rfl
theorem start_diag (n : Nat) (l : List Int) (m : Nat) (hm : m = (n + 1) * (n + 1)) (hi : ∀ j, j < m → l.getD j 0 ≤ 2147483647) (i : Nat) (h : i ≤ n) : tgAll n l m (startR n (n + 1) 0) i i ≤ 1 := by
  subst hm
  rw [← start_both n l hi, clipAll_at, if_pos (.inl ⟨rfl, by omega⟩)]
  omega
/-! ### Equal -/
/-! ### Includes -/
end Go.Proofs.YtnfkmpickmonoaaGreat

/-
  dbm.Limits, of rows of limits.
-/
namespace Go.Proofs.YtnfkmpickmonoaaGreat
open Go.RowKit
set_option linter.unusedVariables false
set_option maxRecDepth 100000
/-- A row of limits: of each its two numbers and its bound. -/
structure Lims where
  q : Nat
  i : Nat → Int
  j : Nat → Int
  b : Nat → Int
/-- One that may be. -/
def okL (n : Nat) (L : Lims) (k : Nat) : Bool := decide (0 ≤ L.i k ∧ L.i k ≤ n ∧ 0 ≤ L.j k ∧ L.j k ≤ n) && rightB (L.b k)
def okAll (n : Nat) (L : Lims) : Nat → Bool
  | 0 => true
  | k + 1 => okAll n L k && okL n L k
theorem okAll_false {n : Nat} {L : Lims} : ∀ {k : Nat} (m : Nat), k ≤ m → okAll n L k = false → okAll n L m = false := by
  intro k m h e
  induction m with
  | zero => obtain rfl : k = 0 := by omega
            exact e
  | succ m ih =>
    by_cases q : k = m + 1
    · subst q; exact e
    · simp [okAll, ih (by omega)]
def tlAll (L : Lims) : Nat → Mat → Mat
  | 0, r => r
  | k + 1, r => tg (tlAll L k r) (L.i k).toNat (L.j k).toNat (L.b k)
/-- They lie in memory, three cells each. -/
def LimRow (w : World) (b off : Nat) (L : Lims) : Prop := ∀ k, k < L.q → w.cell? ⟨b, off + k * 3, none⟩ = some (.int .i64 (L.i k)) ∧ w.cell? ⟨b, off + k * 3 + 1, none⟩ = some (.int .i64 (L.j k)) ∧ w.cell? ⟨b, off + k * 3 + 2, none⟩ = some (.int .i32 (L.b k))
theorem LimRow.later {w w' : World} {b off B : Nat} {L : Lims} (h : LimRow w b off L) (hb : Below B w w') (hB : b < B) : LimRow w' b off L := fun k hk =>
  ⟨(hb.cell (p := ⟨b, off + k * 3, none⟩) hB).trans (h k hk).1, (hb.cell (p := ⟨b, off + k * 3 + 1, none⟩) hB).trans (h k hk).2.1, (hb.cell (p := ⟨b, off + k * 3 + 2, none⟩) hB).trans (h k hk).2.2⟩
set_option maxHeartbeats 4000000 in
theorem limits_main (n cb off cap : Nat) (L : Lims) (w : World) (h : n ≤ 8) (hR : LimRow w cb off L) (hcb : cb < w.heap.size) (hi : ∀ k, k < L.q → -2147483648 ≤ L.b k ∧ L.b k ≤ 2147483647) (hq : L.q ≤ 9223372036854775807) :
    Calls Tryz.prog 44 #[.int .i64 n, .slice (some ⟨cb, off, none⟩) L.q cap] w fun e w' => Below w.heap.size w w' ∧
      ((okAll n L L.q = false ∧ e = errOf 7) ∨ (okAll n L L.q = true ∧ ZoneOut w' w.heap.size n e (zoneR n (tlAll L L.q (startR n (n + 1) 0))))) := by
  have H := hideD (mayYes n w h)
  have HD := hideD (draftOf_any n w h)
  have HR := hideD hR
  have HI := hideD hi
  have HZ : Hid (∀ b w, Draft w b n (tlAll L L.q (startR n (n + 1) 0)) → Calls Tryz.prog 40 #[.pointer (some ⟨b, 0, none⟩)] w fun e w' => ZoneOut w' w.heap.size n e (zoneR n (tlAll L L.q (startR n (n + 1) 0))) ∧ Below b w w') := fun b w hD => zone_any b n _ w h hD
  clear hR hi
  generalize em : L.q = m at *
  have EM := hideD em
  clear em
  have m1 : (m : Int) ≤ 9223372036854775807 := by omega
  go_enter Tryz.func44, Tryz.ntmps44
  go_wp2_with fail
  refine H.out.mono ?_
  rintro e w' ⟨rfl, rfl⟩
  go_wp2_with fail
  refine HD.out.mono ?_
  rintro e w1 ⟨rfl, hd, hb⟩
  have HD1 := hideD hd
  have HB1 := hideD hb
  clear hd hb H HD
  go_wp2_with fail
  go_loopw [16] (fun s wr => ∃ (K : Nat), K ≤ m ∧ s = .int .i64 K ∧ Hid (okAll n L K = true) ∧ Hid (Draft wr w'.heap.size n (tlAll L K (startR n (n + 1) 0))) ∧ Hid (Below w'.heap.size w' wr)) (fun s _ => m - (intOf s).toNat)
  case atStart => exact ⟨0, by omega, rfl, rfl, HD1, HB1⟩
  case round =>
    obtain ⟨K, hK, rfl, hq', hD, hB⟩ := hrel
    clear HD1 HB1
    by_cases ck : K < m
    · obtain ⟨c1, c2, c3⟩ := (HR.out.later hB.out hcb) K (by rw [EM.out]; exact ck)
      obtain ⟨x0, x1⟩ := HI.out K ck
      have st : Hid (okAll n L (K + 1) = (decide (0 ≤ L.i K ∧ L.i K ≤ n ∧ 0 ≤ L.j K ∧ L.j K ≤ n) && rightB (L.b K))) := by show okAll n L (K + 1) = _; rw [okAll, hq'.out, Bool.true_and]; rfl
      have nx : Hid (tlAll L (K + 1) (startR n (n + 1) 0) = tg (tlAll L K (startR n (n + 1) 0)) (L.i K).toNat (L.j K).toNat (L.b K)) := rfl
      have i0 : (0 : Int) ≤ (K : Int) := by omega
      have i1 : (K : Int) < (m : Int) := by omega
      have HH : Hid (∀ w, Calls Tryz.prog 68 #[.agg #[.int .i64 n], .int .i64 (L.i K), .int .i64 (L.j K)] w fun e w' => e = .returned (.bool (decide (0 ≤ L.i K ∧ L.i K ≤ n ∧ 0 ≤ L.j K ∧ L.j K ≤ n))) ∧ Below w.heap.size w w') := fun w => has_any n _ _ w
      have HB : Hid (∀ w, Calls Tryz.prog 37 #[.int .i32 (L.b K)] w fun e w' => e = .returned (.bool (rightB (L.b K))) ∧ w' = w) := fun w => right_any _ w
      have hc := hD.out.clocks
      generalize L.i K = x at *
      generalize L.j K = y at *
      generalize L.b K = z at *
      have b2 := below_one wr (.cells #[.int .i64 x, .int .i64 y, .int .i32 z] 90)
      go_upto_region 7 with (fail)
      have f0 : (wr.alloc (.cells #[.int .i64 x, .int .i64 y, .int .i32 z] 90)).cell? ⟨wr.heap.size, 0, none⟩ = some (.int .i64 x) := by simp [go_sem]
      have f1 : (wr.alloc (.cells #[.int .i64 x, .int .i64 y, .int .i32 z] 90)).cell? ⟨wr.heap.size, 1, none⟩ = some (.int .i64 y) := by simp [go_sem]
      have f2 : (wr.alloc (.cells #[.int .i64 x, .int .i64 y, .int .i32 z] 90)).cell? ⟨wr.heap.size, 2, none⟩ = some (.int .i32 z) := by simp [go_sem]
      have hD2 := hideD (hD.out.later b2 hD.out.lt)
      have hB2 := hideD (beyondD hB.out b2)
      have d0 := hD2.out.clocks
      generalize wr.alloc (.cells #[.int .i64 x, .int .i64 y, .int .i32 z] 90) = W2 at *
      generalize wr.heap.size = B at *
      clear b2 hD hB hc c1 c2 c3
      by_cases hin : 0 ≤ x ∧ x ≤ n ∧ 0 ≤ y ∧ y ≤ n
      · rw [decide_eq_true hin] at HH
        cases er : rightB z with
        | false =>
          rw [er] at HB
          have st3 : Hid (okAll n L m = false) := okAll_false (k := K + 1) m (by omega) (st.out.trans (by rw [er, Bool.and_false]))
          clear er st hin
          go_cut [35] (fun t w2 => t = .bool true ∧ Below W2.heap.size W2 w2)
          case first =>
            first
            | go_region_with
              (first
              | (go_at_call 68; refine (HH.out _).mono ?_; rintro e' w3 ⟨rfl, hb⟩; have s2 := kc ⟨B, 2, none⟩ (.int .i32 z) hb (by first | exact f2); have hX := beyondD (w := W2) (by first | with_reducible exact Below.drew (Below.refl _ _) | with_reducible exact Below.refl _ _) hb; clear hb)
              | (go_at_call 37; refine (HB.out _).mono ?_; rintro e' w4 ⟨rfl, rfl⟩))
            | fail
            all_goals go_wp2_with fail
            all_goals go_meet
            all_goals exact ⟨rfl, by assumption⟩
          case rest =>
            obtain ⟨rfl, hb2⟩ := hcut
            go_wp2_with fail
            refine bodyPost_ret (v := .tuple #[.pointer none, .int .i64 7]) (by simp [results, Tryz.results44, go_sem]) rfl ⟨beyondD hB2.out hb2, .inl ⟨st3.out, rfl⟩⟩
        | true =>
          rw [er] at HB
          have st3 : Hid (okAll n L (K + 1) = true) := st.out.trans (by rw [er, decide_eq_true hin]; rfl)
          obtain ⟨p1, p2, p3, p4⟩ := hin
          clear er st
          obtain ⟨X, rfl⟩ := Int.eq_ofNat_of_zero_le p1
          obtain ⟨Y, rfl⟩ := Int.eq_ofNat_of_zero_le p3
          rw [Int.toNat_natCast, Int.toNat_natCast] at nx
          go_cut [35] (fun t w2 => t = .bool false ∧ Below W2.heap.size W2 w2)
          case first =>
            first
            | go_region_with
              (first
              | (go_at_call 68; refine (HH.out _).mono ?_; rintro e' w3 ⟨rfl, hb⟩; have s2 := kc ⟨B, 2, none⟩ (.int .i32 z) hb (by first | exact f2); have hX := beyondD (w := W2) (by first | with_reducible exact Below.drew (Below.refl _ _) | with_reducible exact Below.refl _ _) hb; clear hb)
              | (go_at_call 37; refine (HB.out _).mono ?_; rintro e' w4 ⟨rfl, rfl⟩))
            | fail
            all_goals go_wp2_with fail
            all_goals go_meet
            all_goals exact ⟨rfl, by assumption⟩
          case rest =>
            obtain ⟨rfl, hb2⟩ := hcut
            have g0 := kc _ _ hb2 f0
            have g1 := kc _ _ hb2 f1
            have g2 := kc _ _ hb2 f2
            have hD3 := hideD (hD2.out.later hb2 hD2.out.lt)
            have hB3 := hideD (beyondD hB2.out hb2)
            have HT := hideD (tighten_any _ n X Y _ z _ hD3.out (by omega) (by omega) x0 x1)
            clear hb2 hD2 hB2 f0 f1 f2 d0
            go_wp2_with fail
            refine HT.out.mono ?_
            rintro e' w5 ⟨rfl, hd, hb⟩
            have hD5 := hideD hd
            have hB5 := hideD (hB3.out.trans hb)
            clear hd hb
            go_wp2_with fail
            go_roundw
            case rel => exact ⟨K + 1, by omega, by go_num, st3, by rw [nx.out]; exact hD5, hB5⟩
            case measure => simp [intOf]; omega
      · rw [decide_eq_false hin] at HH
        have st3 : Hid (okAll n L m = false) := okAll_false (k := K + 1) m (by omega) (st.out.trans (by rw [decide_eq_false hin, Bool.false_and]))
        clear st
        go_cut [35] (fun t w2 => t = .bool true ∧ Below W2.heap.size W2 w2)
        case first =>
          first
          | go_region_with
            (first
              | (go_at_call 68; refine (HH.out _).mono ?_; rintro e' w3 ⟨rfl, hb⟩; have s2 := kc ⟨B, 2, none⟩ (.int .i32 z) hb (by first | exact f2); have hX := beyondD (w := W2) (by first | with_reducible exact Below.drew (Below.refl _ _) | with_reducible exact Below.refl _ _) hb; clear hb)
              | (go_at_call 37; refine (HB.out _).mono ?_; rintro e' w4 ⟨rfl, rfl⟩))
          | fail
          all_goals go_wp2_with fail
          all_goals go_meet
          all_goals exact ⟨rfl, by assumption⟩
        case rest =>
          obtain ⟨rfl, hb2⟩ := hcut
          go_wp2_with fail
          refine bodyPost_ret (v := .tuple #[.pointer none, .int .i64 7]) (by simp [results, Tryz.results44, go_sem]) rfl ⟨beyondD hB2.out hb2, .inl ⟨st3.out, rfl⟩⟩
    · have st : Hid (K = m) := by show K = m; omega
      have hq'' : Hid (okAll n L m = true) := by have e := st.out; subst e; exact hq'
      have hD' : Hid (Draft wr w'.heap.size n (tlAll L m (startR n (n + 1) 0))) := by have e := st.out; subst e; exact hD
      have HZ' := hideD (HZ.out _ _ hD'.out)
      go_wp2_with fail
      refine HZ'.out.mono ?_
      rintro e' w3 ⟨hz, hb⟩
      have hB3 := hideD (hB.out.trans hb)
      have hsz := hB.out.size
      cases ez : zoneR n (tlAll L m (startR n (n + 1) 0)) with
      | none =>
        rw [ez] at hz
        obtain rfl := hz
        go_wp2_with fail
        exact bodyPost_ret (v := .tuple #[.pointer none, .int .i64 10]) (by simp [results, Tryz.results44, go_sem]) rfl ⟨hB3.out, .inr ⟨hq''.out, by rw [ez]; exact rfl⟩⟩
      | some c =>
        rw [ez] at hz
        obtain ⟨b', hb', rfl, hz⟩ := hz
        go_wp2_with fail
        exact bodyPost_ret (v := .tuple #[.pointer (some ⟨b', 0, none⟩), .int .i64 0]) (by simp [results, Tryz.results44, go_sem]) rfl ⟨hB3.out, .inr ⟨hq''.out, by rw [ez]; exact ⟨b', Nat.le_trans hsz hb', rfl, hz⟩⟩⟩
end Go.Proofs.YtnfkmpickmonoaaGreat
