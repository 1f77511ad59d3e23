/-
  The contract of dbm.Of.
-/
import Derived.Test.YtjanibholjimkaaQ5
import Derived.Test.YtjanibholjimkaaQ6
namespace Go.Proofs.Ytjanibholjimkaa
open Go.RowKit
set_option linter.unusedVariables false
set_option maxRecDepth 100000
def tg (r : Mat) (i j : Nat) (x : Int) : Mat := if x = 2147483647 then r else upd r i j (min (r i j) x)
def tgAll (n : Nat) (l : List Int) : Nat → Mat → Mat
  | 0, r => r
  | k + 1, r => tg (tgAll n l k r) (k / (n + 1)) (k % (n + 1)) (l.getD k 0)
def allRight (l : List Int) : Nat → Bool
  | 0 => true
  | k + 1 => allRight l k && rightB (l.getD k 0)
theorem allRight_false {l : List Int} : ∀ {k : Nat} (m : Nat), k ≤ m → allRight l k = false → allRight l m = false := by
  intro k m h e
  induction m with
  | zero => obtain rfl : k = 0 := by omega
            exact e
  | succ m ih =>
    by_cases q : k = m + 1
    · subst q; exact e
    · simp [allRight, ih (by omega)]
theorem tighten_any (b n i j : Nat) (r : Mat) (x : Int) (w : World) (hD : Draft w b n r) (i1 : i ≤ 8) (j1 : j ≤ 8) (x0 : -2147483648 ≤ x) (x1 : x ≤ 2147483647) :
    Calls Try.prog 19 #[.pointer (some ⟨b, 0, none⟩), .int .i64 i, .int .i64 j, .int .i32 x] w fun e w' => e = .returned (.tuple #[]) ∧ Draft w' b n (tg r i j x) ∧ Below b w w' := by
  by_cases hx : x = 2147483647
  · subst hx
    refine (tighten_inf _ _ _ w).mono ?_
    rintro e w' ⟨rfl, rfl⟩
    exact ⟨rfl, by simpa [tg] using hD, Below.refl _ _⟩
  · refine (tighten_fin b i j x (r i j) w i1 j1 (by simpa using hx) x0 x1 (hD.cell i j i1 j1) (hD.free i j i1 j1)).mono ?_
    rintro e w' ⟨rfl, rfl⟩
    refine ⟨rfl, ?_, Below.drew (Below.setCell (p := at9 b i j) (Below.refl b w) (Nat.le_refl _) _)⟩
    simp only [tg, if_neg hx]
    exact (hD.set i1 j1 _).drew
/-- A row of bounds in memory. -/
def RowAt (w : World) (b off : Nat) (l : List Int) : Prop := ∀ j, j < l.length → w.cell? ⟨b, off + j, none⟩ = some (.int .i32 (l.getD j 0))
theorem RowAt.later {w w' : World} {b off B : Nat} {l : List Int} (h : RowAt w b off l) (hb : Below B w w') (hB : b < B) : RowAt w' b off l := fun j hj => (hb.cell (p := ⟨b, off + j, none⟩) hB).trans (h j hj)
abbrev errOf (e : Int) : Ending := .returned (.tuple #[.pointer none, .int .i64 e])
theorem mayYes (n : Nat) (w : World) (h : n ≤ 8) : Calls Try.prog 17 #[.int .i64 n] w fun e w' => e = .returned (.bool true) ∧ w' = w := by
  have := mayHave_any n w
  rw [decide_eq_true ⟨by omega, by omega⟩] at this
  exact this
set_option maxHeartbeats 1000000 in
theorem of_main (n cb off cap : Nat) (l : List Int) (w : World) (h : n ≤ 8) (hlen : l.length = (n + 1) * (n + 1)) (hR : RowAt w cb off l) (hi : ∀ j, j < l.length → -2147483648 ≤ l.getD j 0 ∧ l.getD j 0 ≤ 2147483647) :
    Calls Try.prog 50 #[.int .i64 n, .slice (some ⟨cb, off, none⟩) l.length cap] w fun e w' => Below w.heap.size w w' ∧
      ((allRight l l.length = false ∧ e = errOf 7) ∨ (allRight l l.length = true ∧ ZoneOut w' w.heap.size n e (zoneR n (tgAll n l l.length (startR n (n + 1) 0))))) := by
  have hcb : cb < w.heap.size := World.block_lt_of_cell? _ _ (hR 0 (by rw [hlen]; exact Nat.mul_pos (by omega) (by omega)))
  have H := hideD (mayYes n w h)
  have HD := hideD (draftOf_any n w h)
  have q : (n + 1) * (n + 1) ≤ 81 := Nat.mul_le_mul (show n + 1 ≤ 9 by omega) (show n + 1 ≤ 9 by omega)
  have HS : Hid (∀ w, Calls Try.prog 57 #[.agg #[.int .i64 n]] w fun e w' => e = .returned (.int .i64 ((n + 1 : Nat) : Int)) ∧ Below w.heap.size w w') := fun w => side_any n w h
  have e1 : IntKind.i64.wrap (((n + 1 : Nat) : Int) * ((n + 1 : Nat) : Int)) = (((n + 1) * (n + 1) : Nat) : Int) := by
    rw [← Int.natCast_mul]
    generalize (n + 1) * (n + 1) = z at *
    rw [IntKind.wrap_i64]
    omega
  have HQ : Hid (∀ k, k < l.length → k / (n + 1) ≤ n ∧ k % (n + 1) ≤ n) := fun k hk => ⟨by have := Nat.div_lt_of_lt_mul (hlen ▸ hk); omega, by have := Nat.mod_lt k (show 0 < n + 1 by omega); omega⟩
  have e2 : IntKind.i64.wrap (((n + 1 : Nat) : Int) * ((n + 1 : Nat) : Int)) = (l.length : Int) := by rw [hlen]; exact e1
  rw [← hlen] at q
  clear e1
  have HR := hideD hR
  have HI := hideD hi
  clear hR hi
  have HZ : Hid (∀ b w, Draft w b n (tgAll n l l.length (startR n (n + 1) 0)) → Calls Try.prog 20 #[.pointer (some ⟨b, 0, none⟩)] w fun e w' => ZoneOut w' w.heap.size n e (zoneR n (tgAll n l l.length (startR n (n + 1) 0))) ∧ Below b w w') := fun b w hD => zone_any b n _ w h hD
  have HP : Hid (∀ (k : Nat) w, k < l.length → Calls Try.prog 41 #[.agg #[.int .i64 n], .int .i64 k] w fun e w' => e = .returned (.tuple #[.int .i64 ((k / (n + 1) : Nat) : Int), .int .i64 ((k % (n + 1) : Nat) : Int)]) ∧ Below w.heap.size w w') := fun k w hk => place_any n k w h (by omega)
  have hm : Hid (l.length = l.length) := rfl
  have HL := hideD hlen
  clear hlen
  generalize em : l.length = m at *
  generalize ((n + 1 : Nat) : Int) = s at *
  have m1 : (m : Int) ≤ 81 := by omega
  go_enter Try.func50, Try.ntmps50
  go_wp2_with fail
  refine H.out.mono ?_
  rintro e w' ⟨rfl, rfl⟩
  go_wp2_with fail
  refine HD.out.mono ?_
  rintro e w1 ⟨rfl, hd, hb⟩
  have hc := hd.clocks
  have HD1 := hideD hd
  have HB1 := hideD hb
  clear hd hb H HD
  go_upto_region 4 with (fail)
  go_cut [29] (fun t w2 => t = .bool (false) ∧ Hid (Below w1.heap.size w1 w2))
  case first =>
    go_region_held3 (fun w2 => Below w1.heap.size w1 w2 ∧ w2.cell? ⟨w'.heap.size, 0, none⟩ = some (.int .i64 n))
      (first | exact ⟨by first | assumption | exact Below.refl _ _ | exact Below.drew (Below.refl _ _), by first | assumption | simp [go_sem, *]⟩ | go_keep)
      (first | (go_at_call 57; refine (HS.out _).mono ?_; rintro e' w2 ⟨rfl, hb⟩; have s0 := kc ⟨w'.heap.size, 0, none⟩ (.int .i64 n) hb (by first | assumption | simp [go_sem, *]); have s1 := beyondD (w := w1) (by first | assumption | exact Below.refl _ _ | exact Below.drew (Below.refl _ _)) hb))
    all_goals go_wp2_with fail
    all_goals go_meet
    all_goals exact ⟨by first | rfl | simp [*], by assumption⟩
  case rest =>
    obtain ⟨rfl, hb2⟩ := hcut
    have hD2 := hideD (HD1.out.later hb2.out HD1.out.lt)
    have hB2 := hideD (HB1.out.trans (hb2.out.mono HB1.out.size))
    clear hb2 HD1 HB1 hc
    go_wp2_with fail
    go_loopw [32] (fun s wr => ∃ (K : Nat), K ≤ m ∧ s = .int .i64 K ∧ Hid (allRight l K = true) ∧ Hid (Draft wr w'.heap.size n (tgAll n l K (startR n (n + 1) 0))) ∧ Hid (Below w'.heap.size w' wr)) (fun s _ => m - (intOf s).toNat)
    case atStart => exact ⟨0, by omega, rfl, rfl, hD2, hB2⟩
    case round =>
      obtain ⟨K, hK, rfl, hq, hD, hB⟩ := hrel
      clear hD2 hB2
      by_cases ck : K < m
      · have hrow := (HR.out.later hB.out hcb) K (by omega)
        obtain ⟨x0, x1⟩ := HI.out K (by omega)
        have st : Hid (allRight l (K + 1) = rightB (l.getD K 0)) := by show allRight l (K + 1) = _; simp [allRight, hq.out]
        have nx : Hid (tgAll n l (K + 1) (startR n (n + 1) 0) = tg (tgAll n l K (startR n (n + 1) 0)) (K / (n + 1)) (K % (n + 1)) (l.getD K 0)) := rfl
        obtain ⟨i1, j1⟩ := HQ.out K ck
        have HPK : Hid (∀ w, Calls Try.prog 41 #[.agg #[.int .i64 n], .int .i64 K] w fun e w' => e = .returned (.tuple #[.int .i64 ((K / (n + 1) : Nat) : Int), .int .i64 ((K % (n + 1) : Nat) : Int)]) ∧ Below w.heap.size w w') := fun w => HP.out K w ck
        have HB : Hid (∀ w, Calls Try.prog 35 #[.int .i32 (l.getD K 0)] w fun e w' => e = .returned (.bool (rightB (l.getD K 0))) ∧ w' = w) := fun w => right_any _ w
        generalize K / (n + 1) = i at *
        generalize K % (n + 1) = j at *
        generalize l.getD K 0 = x at *
        cases er : rightB x with
        | false =>
          rw [er] at HB st
          have st3 : Hid (allRight l m = false) := allRight_false (k := K + 1) m (by omega) st.out
          go_wp2_with fail
          refine (HB.out _).mono ?_
          rintro e' w3 ⟨rfl, rfl⟩
          go_wp2_with fail
          refine bodyPost_ret (v := .tuple #[.pointer none, .int .i64 7]) (by simp [results, Try.results50, go_sem]) rfl ⟨hB.out, .inl ⟨st3.out, rfl⟩⟩
        | true =>
          rw [er] at HB st
          have hc := hD.out.clocks
          go_wp2_with fail
          refine (HB.out _).mono ?_
          rintro e' w3 ⟨rfl, rfl⟩
          go_wp2_with fail
          refine (HPK.out _).mono ?_
          rintro e' w4 ⟨rfl, hb⟩
          have hD4 := hideD (hD.out.later hb hD.out.lt)
          have hB4 := hideD (beyondD hB.out hb)
          have HT := hideD (tighten_any _ n i j _ x w4 hD4.out (by omega) (by omega) x0 x1)
          clear hb hD hB hc hrow
          go_wp2_with fail
          refine HT.out.mono ?_
          rintro e' w5 ⟨rfl, hd, hb⟩
          have hD5 := hideD hd
          have hB5 := hideD (hB4.out.trans hb)
          clear hd hb
          go_wp2_with fail
          go_roundw
          case rel => exact ⟨K + 1, by omega, by go_num, st, by rw [nx.out]; exact hD5, hB5⟩
          case measure => simp [intOf]; omega
      · have st : Hid (K = m) := by show K = m; omega
        have hq' : Hid (allRight l m = true) := by have e := st.out; subst e; exact hq
        have hD' : Hid (Draft wr w'.heap.size n (tgAll n l m (startR n (n + 1) 0))) := by have e := st.out; subst e; exact hD
        have HZ' := hideD (HZ.out _ _ hD'.out)
        go_wp2_with fail
        refine HZ'.out.mono ?_
        rintro e' w3 ⟨hz, hb⟩
        have hB3 := hideD (hB.out.trans hb)
        have hsz := hB.out.size
        cases ez : zoneR n (tgAll n l m (startR n (n + 1) 0)) with
        | none =>
          rw [ez] at hz
          obtain rfl := hz
          go_wp2_with fail
          exact bodyPost_ret (v := .tuple #[.pointer none, .int .i64 10]) (by simp [results, Try.results50, go_sem]) rfl ⟨hB3.out, .inr ⟨hq'.out, by rw [ez]; exact rfl⟩⟩
        | some c =>
          rw [ez] at hz
          obtain ⟨b', hb', rfl, hz⟩ := hz
          go_wp2_with fail
          exact bodyPost_ret (v := .tuple #[.pointer (some ⟨b', 0, none⟩), .int .i64 0]) (by simp [results, Try.results50, go_sem]) rfl ⟨hB3.out, .inr ⟨hq'.out, by rw [ez]; exact ⟨b', Nat.le_trans hsz hb', rfl, hz⟩⟩⟩
end Go.Proofs.Ytjanibholjimkaa
