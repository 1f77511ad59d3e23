/-
  The contract of zone: what becomes of a draft.
-/
import Derived.Test.YtjanibholjimkaaQ4
namespace Go.Proofs.Ytjanibholjimkaa
open Go.RowKit
set_option linter.unusedVariables false
set_option maxRecDepth 100000
set_option maxHeartbeats 1000000 in
theorem zone_some (b n : Nat) (r p : Mat) (w : World) (h : n ≤ 8) (hD : Draft w b n r) (e : closeR n r = some p) :
    Calls Try.prog 20 #[.pointer (some ⟨b, 0, none⟩)] w fun e w' => Below b w w' ∧
      ((narAll n p ((n + 1) * (n + 1)) = false ∧ e = .returned (.tuple #[.pointer none, .int .i64 10])) ∨
       (narAll n p ((n + 1) * (n + 1)) = true ∧ ∃ b', w.heap.size ≤ b' ∧ e = .returned (.tuple #[.pointer (some ⟨b', 0, none⟩), .int .i64 0]) ∧ ZoneAt w' b' n (cellsUpto n p ((n + 1) * (n + 1))))) := by
  have HC := hideD (close_any b n r w h hD)
  rw [e] at HC
  have hm : (n + 1) * (n + 1) ≤ 81 := Nat.mul_le_mul (show n + 1 ≤ 9 by omega) (show n + 1 ≤ 9 by omega)
  have HU : Hid (∀ bz w, w.cell? ⟨bz, 0, none⟩ = some (.int .i64 n) → Calls Try.prog 40 #[.pointer (some ⟨bz, 0, none⟩)] w fun e w' => e = .returned (.slice (some ⟨bz, 1, none⟩) ((n + 1) * (n + 1)) 81) ∧ Below w.heap.size w w') := fun bz w hz => used_any bz n w h hz
  have HQ : Hid (∀ k, k < (n + 1) * (n + 1) → k / (n + 1) ≤ n ∧ k % (n + 1) ≤ n) := fun k hk => ⟨by have := Nat.div_lt_of_lt_mul hk; omega, by have := Nat.mod_lt k (show 0 < n + 1 by omega); omega⟩
  generalize (n + 1) * (n + 1) = m at *
  have hm1 : (m : Int) ≤ 81 := by omega
  go_enter Try.func20, Try.ntmps20
  go_wp2_with fail
  refine HC.out.mono ?_
  rintro e' w1 ⟨rfl, hb, s, hs, hp⟩
  obtain rfl := hp p rfl
  have hcl := hs.clocks
  have hB1 := hideD hb
  have hD1 := hideD hs
  clear hb hs hp HC hD
  go_wp2_with fail
  refine (none_any n _).mono ?_
  rintro e' w2 ⟨rfl, hz, hb2, hs2⟩
  have hB2 := hideD (hB1.out.trans (hb2.mono (Nat.le_of_lt hD1.out.lt)))
  have hD2 := hideD (hD1.out.later hb2 hD1.out.lt)
  have hl := hideD hD1.out.lt
  have hsz := hideD hB1.out.size
  generalize w1.heap.size = bz at *
  have hZ := hideD hz
  have hcz := hz.clocks
  clear hz hb2 hB1 hD1 hs2
  go_wp2_with fail
  refine (HU.out _ _ hcz).mono ?_
  rintro e' w3 ⟨rfl, hb⟩
  have hZ3 := hideD (hZ.out.past hb)
  have hD3 := hideD (hD2.out.later hb hD2.out.lt)
  have hB3 := hideD (hB2.out.trans (hb.mono (Nat.le_of_lt hD2.out.lt)))
  clear hb hZ hD2 hB2 hcz
  go_wp2_with fail
  go_loopw [30] (fun s wr => ∃ (K : Nat), K ≤ m ∧ s = .int .i64 K ∧ Hid (narAll n p K = true) ∧ Hid (ZoneAt wr bz n (cellsUpto n p K)) ∧ Hid (Draft wr b n p) ∧ Hid (Below b w wr)) (fun s _ => m - (intOf s).toNat)
  case atStart => exact ⟨0, by omega, rfl, rfl, hZ3, hD3, hB3⟩
  case round =>
    obtain ⟨K, hK, rfl, hq, hZ, hD, hB⟩ := hrel
    clear hZ3 hD3 hB3
    by_cases ck : K < m
    · have HP : Hid (∀ w, Calls Try.prog 41 #[.agg #[.int .i64 n], .int .i64 K] w fun e w' => e = .returned (.tuple #[.int .i64 ((K / (n + 1) : Nat) : Int), .int .i64 ((K % (n + 1) : Nat) : Int)]) ∧ Below w.heap.size w w') := fun w => place_any n K w h (by omega)
      obtain ⟨i1, j1⟩ := HQ.out K ck
      have st : Hid (narAll n p (K + 1) = narOk (p (K / (n + 1)) (K % (n + 1)))) := by show narAll n p (K + 1) = _; simp [narAll, hq.out, flat]
      have nx := hideD (cells_next n p K)
      have nx : Hid (updR (cellsUpto n p K) K (narB (p (K / (n + 1)) (K % (n + 1)))) = cellsUpto n p (K + 1)) := nx
      generalize K / (n + 1) = i at *
      generalize K % (n + 1) = j at *
      have hcz := hZ.out.clocks
      have k0 : (0 : Int) ≤ (K : Int) := by omega
      have k1 : (K : Int) < 81 := by omega
      go_wp2_with fail
      refine (HP.out _).mono ?_
      rintro e' w4 ⟨rfl, hb⟩
      have hZ4 := hideD (hZ.out.past hb)
      have hD4 := hideD (hD.out.later hb hD.out.lt)
      have hB4 := hideD (hB.out.trans (hb.mono (Nat.le_of_lt hD.out.lt)))
      have h1 := hD4.out.cell i j (by omega) (by omega)
      have h2 := hZ4.out.cell K (by omega)
      have h3 := hZ4.out.free K (by omega)
      clear hb hZ hD hB hcz
      have HN : Hid (∀ w, Calls Try.prog 42 #[.int .i64 (p i j)] w fun e w' => e = .returned (.tuple #[.int .i32 (narB (p i j)), .bool (narOk (p i j))]) ∧ w' = w) := fun w => narrow_dbm _ w
      generalize p i j = x at *
      generalize narB x = y at *
      cases eo : narOk x with
      | false =>
        rw [eo] at HN st
        have st3 : Hid (narAll n p m = false) := narAll_false (k := K + 1) m (by omega) st.out
        go_wp2_with fail
        refine (HN.out _).mono ?_
        rintro e' w5 ⟨rfl, rfl⟩
        go_wp2_with fail
        refine bodyPost_ret (v := .tuple #[.pointer none, .int .i64 10]) (by simp [results, Try.results20, go_sem]) rfl ⟨hB4.out, .inl ⟨st3.out, rfl⟩⟩
      | true =>
        rw [eo] at HN st
        go_wp2_with fail
        refine (HN.out _).mono ?_
        rintro e' w5 ⟨rfl, rfl⟩
        go_wp2_with fail
        go_roundw
        case rel => exact ⟨K + 1, by omega, by go_num, st, by rw [← nx.out]; exact hZ4.out.set (by omega) _, hD4.out.later ((Below.refl bz _).setCell (Nat.le_refl _) _) hl.out, hB4.out.setCell (Nat.le_of_lt hl.out) _⟩
        case measure => simp [intOf]; omega
    · have st : Hid (K = m) := by show K = m; omega
      have hq' : Hid (narAll n p m = true) := by have e := st.out; subst e; exact hq
      have hZ' : Hid (ZoneAt wr bz n (cellsUpto n p m)) := by have e := st.out; subst e; exact hZ
      go_wp2_with fail
      refine bodyPost_ret (v := .tuple #[.pointer (some ⟨bz, 0, none⟩), .int .i64 0]) (by simp [results, Try.results20, go_sem]) rfl ⟨hB.out, .inr ⟨hq'.out, bz, hsz.out, rfl, hZ'.out⟩⟩
/-- What becomes of a draft. -/
def ZoneOut (w' : World) (B n : Nat) (e : Ending) : Option Row → Prop
  | none => e = .returned (.tuple #[.pointer none, .int .i64 10])
  | some c => ∃ b', B ≤ b' ∧ e = .returned (.tuple #[.pointer (some ⟨b', 0, none⟩), .int .i64 0]) ∧ ZoneAt w' b' n c
theorem zone_any (b n : Nat) (r : Mat) (w : World) (h : n ≤ 8) (hD : Draft w b n r) :
    Calls Try.prog 20 #[.pointer (some ⟨b, 0, none⟩)] w fun e w' => ZoneOut w' w.heap.size n e (zoneR n r) ∧ Below b w w' := by
  cases e : closeR n r with
  | none =>
    refine (zone_none b n r w h hD e).mono ?_
    rintro e' w' ⟨b', hb, rfl, hz, hB⟩
    have ez : zoneR n r = some (fun _ => 0) := by simp [zoneR, e]
    rw [ez]
    exact ⟨⟨b', hb, rfl, hz⟩, hB⟩
  | some p =>
    refine (zone_some b n r p w h hD e).mono ?_
    rintro e' w' ⟨hB, ⟨hn, rfl⟩ | ⟨hn, b', hb, rfl, hz⟩⟩
    · have ez : zoneR n r = none := by simp [zoneR, e, hn]
      rw [ez]
      exact ⟨rfl, hB⟩
    · have ez : zoneR n r = some (cellsUpto n p ((n + 1) * (n + 1))) := by simp [zoneR, e, hn]
      rw [ez]
      exact ⟨⟨b', hb, rfl, hz⟩, hB⟩
end Go.Proofs.Ytjanibholjimkaa
