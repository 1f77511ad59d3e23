/-
  The contract of zone of ops: what becomes of a draft.
-/
import Derived.Test.YtjanibholjimkaaQ17
import Derived.Test.YtjanibholjimkaaQ11
namespace Go.Proofs.Ytjanibholjimkaa
open Go.RowKit
set_option linter.unusedVariables false
set_option maxRecDepth 100000
theorem own_past {w w' : World} {base : Nat} {e : TypeId} {size n : Nat} {v : Value} {xs : List Value} (h : w.ownsRow base e size v n xs) (hb : Below w.heap.size w w') : w'.ownsRow base e size v n xs := by
  refine ⟨h.1, ?_⟩
  rcases h.2 with ⟨rfl, h0⟩ | ⟨g, cap, cur, rfl, h1, h2, h3⟩
  · exact .inl ⟨rfl, h0⟩
  · refine .inr ⟨g, cap, cur, rfl, h1, (hb.block g ?_).trans h2, h3⟩
    rcases Nat.lt_or_ge g w.heap.size with h' | h'
    · exact h'
    · simp [Array.getElem?_eq_none h'] at h2
/-- The first rows of a matrix, one behind the other. -/
def rowsL (n : Nat) (r : Mat) (I : Nat) : List Int := listOf (flat n r) (I * (n + 1))
theorem rowsL_next (n : Nat) (r : Mat) (I : Nat) : rowsL n r (I + 1) = rowsL n r I ++ (List.range (n + 1)).map (r I) := by
  unfold rowsL listOf
  rw [Nat.succ_mul, List.range_add, List.map_append]
  congr 1
  rw [List.map_map]
  apply List.map_congr_left
  intro j hj
  have hj : j < n + 1 := by simpa using hj
  show flat n r (I * (n + 1) + j) = r I j
  unfold flat
  rw [Nat.mul_comm, Nat.mul_add_div (by omega), Nat.div_eq_of_lt hj, Nat.mul_add_mod, Nat.mod_eq_of_lt hj]
  rfl
set_option maxHeartbeats 4000000 in
theorem ozone_any (b n : Nat) (r : Mat) (w : World) (h : n ≤ 8) (hD : ODraft w b n r) (hi : ∀ i j, -2147483648 ≤ r i j ∧ r i j ≤ 2147483647) :
    Calls Try.prog 27 #[.pointer (some ⟨b, 0, none⟩)] w fun e w' => Below w.heap.size w w' ∧
      ((allRight (rowsL n r (n + 1)) ((n + 1) * (n + 1)) = false ∧ e = errOf 7) ∨ (allRight (rowsL n r (n + 1)) ((n + 1) * (n + 1)) = true ∧ ZoneOut w' w.heap.size n e (zoneR n (tgAll n (rowsL n r (n + 1)) ((n + 1) * (n + 1)) (startR n (n + 1) 0))))) := by
  have HS : Hid (∀ w, Calls Try.prog 49 #[.agg #[.int .i64 n]] w fun e w' => e = .returned (.int .i64 ((n + 1 : Nat) : Int)) ∧ Below w.heap.size w w') := fun w => oside_any n w h
  have hm81 : (n + 1) * (n + 1) ≤ 81 := Nat.mul_le_mul (show n + 1 ≤ 9 by omega) (show n + 1 ≤ 9 by omega)
  obtain ⟨i0, hi0, hz0, hz1, hz2⟩ := info_parts info_bd
  have e1 : IntKind.i64.wrap (((n + 1 : Nat) : Int) * ((n + 1 : Nat) : Int)) = (((n + 1) * (n + 1) : Nat) : Int) := by
    rw [← Int.natCast_mul]
    generalize (n + 1) * (n + 1) = z at *
    rw [IntKind.wrap_i64]
    omega
  have HD := hideD hD
  have hcl := hD.clocks
  have hbl := hD.lt
  generalize hm : (n + 1) * (n + 1) = m at *
  have HM := hideD hm
  clear hm
  obtain ⟨q, hq⟩ : ∃ q : Nat, q = n + 1 := ⟨_, rfl⟩
  rw [← hq] at HS e1
  have HQ := hideD hq
  have q9 : q ≤ 9 := by omega
  have q1 : 1 ≤ q := by omega
  have AL : Try.prog.arrayLen 66 = 9 := by kernel_rfl
  have q2 : (0 : Int) ≤ (q : Int) := by omega
  have q3 : (q : Int) ≤ 9 := by omega
  clear hq
  have MK : ∀ w, Sem.run Try.prog (Instr.makeSlice 93 (.int .i64 0) (.int .i64 (m : Int))) w = .ok (.slice (some ⟨w.heap.size, 0, none⟩) 0 m) (w.alloc (.cells (madeCells #[.int .i32 0] m) 32)) := fun w => by
    have := run_make (P := Try.prog) w 93 32 i0 (.int .i32 0) Try.underlying93 hi0 hz0 .i64 .i64 0 (m : Int) (Int.le_refl _) (by omega) (by rw [hz2]; omega) (by omega)
    rw [hz1] at this
    simpa [Value.cells] using this
  have mcs := hideD (size_madeCells #[.int .i32 0] m)
  generalize madeCells #[.int .i32 0] m = MC at *
  go_enter Try.func27, Try.ntmps27
  go_upto_region 1 with (fail)
  have B1 := Below.refl w.heap.size w
  go_region_held3 (fun w2 => w2.cell? ⟨b, 0, none⟩ = some (.int .i64 n))
    (first | with_reducible assumption | go_keep)
    (first
     | (go_at_call 49; refine (HS.out _).mono ?_; rintro e' w2 ⟨rfl, hb⟩; have s0 := kc ⟨b, 0, none⟩ (.int .i64 n) hb (by first | assumption | simp [go_sem, *]); have s1 := beyondD (w := w) (by first | assumption | (apply Below.drew; assumption)) hb; clear hb))
  all_goals
    have own0 := hideD (World.ownsRow_made (base := w.heap.size) (e := 32) (size := 1) w2 MC m s1.size (by unfold maxLen; omega) (by have := mcs.out; omega))
    have hB2 := hideD (s1.alloc s1.size (.cells MC 32))
    have hD2 := hideD (HD.out.past hB2.out)
    have hc2 := hD2.out.clocks
    generalize w2.heap.size = g0 at *
    generalize w2.alloc (.cells MC 32) = w3 at *
    clear s0 s1 B1 MK mcs hD
    have HD0 := HD
    clear HD
    go_wp2_with fail
    refine (HS.out _).mono ?_
    rintro e w4 ⟨rfl, hb⟩
    have own4 := hideD (own_past own0.out hb)
    have hD4 := hideD (hD2.out.past hb)
    have hB4 := hideD (beyondD hB2.out hb)
    clear hb own0 hD2 hB2 hc2
    go_wp2_with fail
    go_loopw [4, 23] (fun v s wr => ∃ (u : Value) (I : Nat), I ≤ q ∧ v = u ∧ s = .int .i64 I ∧ Hid (wr.ownsRow w.heap.size 32 1 u (I * q) ((rowsL n r I).map (Value.int .i32))) ∧ Hid (ODraft wr b n r) ∧ Hid (Below w.heap.size w wr)) (fun _ s _ => q - (intOf s).toNat)
    case atStart => exact ⟨_, 0, by omega, rfl, rfl, by show World.ownsRow _ _ _ _ _ _ _; rw [Nat.zero_mul]; simpa [rowsL, listOf] using own4.out, hD4, hB4⟩
    case round =>
      obtain ⟨u, I, hI, hv, rfl, hO, hD, hB⟩ := hrel
      replace hv := hv.symm
      subst hv
      clear own4 hD4 hB4
      by_cases cI : I < q
      · have i0' : (0 : Int) ≤ (I : Int) := by omega
        have i9' : (I : Int) < 9 := by omega
        have i9n : I < 9 := by omega
        have hcz := hD.out.clocks
        have HN : Hid (∀ W, Below wr.heap.size wr W → ∀ j x, (((List.range q).map (r I)).map (Value.int .i32))[j]? = some x → W.cell? ((⟨b, 1 + I * 9, none⟩ : Addr).add j) = some x) := by
          intro W hb j x hx
          rw [Addr.add_lit]
          by_cases hj : j < q
          · have := (hD.out.past hb).cell I j (by omega) (by omega)
            simp [hj] at hx
            rw [← hx]
            exact this
          · rw [List.getElem?_eq_none (by simp; omega)] at hx
            cases hx
        have B2 := Below.refl wr.heap.size wr
        have IQ : I * q + q ≤ 81 := by
          have : (I + 1) * q ≤ 9 * 9 := Nat.mul_le_mul (by omega) (by omega)
          rw [Nat.succ_mul] at this
          exact this
        have NX := hideD (rowsL_next n r I)
        have IQ' := hideD IQ
        clear IQ
        go_upto_region 5 with (fail)
        go_region_held3 (fun w2 => w2.cell? ⟨b, 0, none⟩ = some (.int .i64 n)) (first | with_reducible assumption | go_keep) (first
          | (go_at_call 49; refine (HS.out _).mono ?_; rintro e' w5 ⟨rfl, hb⟩; have s0 := kc ⟨b, 0, none⟩ (.int .i64 n) hb (by first | assumption | simp [go_sem, *]); have s1 := beyondD (w := wr) (by first | assumption | (apply Below.drew; assumption)) hb; clear hb)
          | (refine step_own rfl (.tmp 26) (.tmp 37) 93 rfl w.heap.size 32 i0 (.int .i32 0) 1 4 Try.underlying93 hi0 hz0 hz1 hz2 rfl (by decide) u (I * q) ((rowsL n r I).map (Value.int .i32)) (by simp [Act.eval]) (own_past hO.out s1) ⟨b, 1 + I * 9, none⟩ q 9 (((List.range q).map (r I)).map (Value.int .i32)) (by simp [Act.eval]) (by simp) (HN.out _ s1) (fun u hu => by simp at hu; obtain ⟨a, _, rfl⟩ := hu; rfl) (by have := IQ'.out; unfold maxLen; omega) (by have := IQ'.out; omega) (by have := s1.size; have := hB.out.size; omega) ?_; intro v' w6 hown' hgrow; have s4 := hideD hown'; have s7 := (beyondD hB.out s1).grown hgrow (by have := s1.size; have := hB.out.size; omega) (fun k hk => ((own_past hO.out s1).lt k hk).1); have s8 : w6.cell? ⟨b, 0, none⟩ = some (.int .i64 n) := (s7.cell hbl).trans hcl; clear hown' hgrow))
        all_goals
          have hD6 := hideD (HD0.out.past s7)
          have hB6 := hideD s7
          have hO6 : Hid (w6.ownsRow w.heap.size 32 1 v' ((I + 1) * q) ((rowsL n r (I + 1)).map (Value.int .i32))) := by
            show World.ownsRow _ _ _ _ _ _ _
            rw [NX.out, ← HQ.out, List.map_append, Nat.succ_mul]
            exact s4.out
          clear s0 s1 s4 s7 s8 hO hD hB HN NX B2 hcz
          go_wp2_with fail
          go_roundw
          case rel => exact ⟨v', I + 1, by omega, rfl, by go_num, hO6, hD6, hB6⟩
          case measure => simp [intOf]; omega
      · have eI : I = q := by omega
        subst eI
        have hcz := hD.out.clocks
        have hlen : Hid ((rowsL n r I).length = m) := by show _ = _; rw [rowsL, listOf_len, ← HM.out, HQ.out]
        have hform : ∃ g cap, u = .slice (some ⟨g, 0, none⟩) m cap ∧ RowAt wr g 0 (rowsL n r I) := by
          have e0 : I * I = m := by rw [← HM.out, HQ.out]
          have hO' := hO.out
          rw [e0] at hO'
          rcases hO'.2 with ⟨-, h0⟩ | ⟨g, cap, cur, rfl, h1⟩
          · have : 0 < I * I := Nat.mul_pos q1 q1
            omega
          · refine ⟨g, cap, rfl, fun j hj => ?_⟩
            have hc := World.ownsRow.cells hO' (g := g) rfl j (.int .i32 ((rowsL n r I).getD j 0)) (by simp [List.getD, hj])
            rw [Addr.add_lit] at hc
            exact hc
        obtain ⟨g, cap, rfl, hrow⟩ := hform
        have HO : Hid (Calls Try.prog 50 #[.int .i64 n, .slice (some ⟨g, 0, none⟩) m cap] wr fun e w' => Below wr.heap.size wr w' ∧
            ((allRight (rowsL n r I) m = false ∧ e = errOf 7) ∨ (allRight (rowsL n r I) m = true ∧ ZoneOut w' wr.heap.size n e (zoneR n (tgAll n (rowsL n r I) m (startR n (n + 1) 0)))))) := by
          have := of_main n g 0 cap (rowsL n r I) wr h (by rw [hlen.out, HM.out]) hrow (fun j hj => by
            rw [rowsL, listOf_get _ _ j (by rw [rowsL, listOf_len] at hj; exact hj)]
            exact hi _ _)
          rw [hlen.out] at this
          exact this
        have HQ' : Hid (I = n + 1) := HQ.out
        go_wp2_with fail
        refine HO.out.mono ?_
        rintro e w7 ⟨hb7, hcase⟩
        have hB7 := hideD (beyondD hB.out hb7)
        have hsz := hB.out.size
        rcases hcase with ⟨ha, rfl⟩ | ⟨ha, hz⟩
        · go_wp2_with fail
          exact bodyPost_ret (v := .tuple #[.pointer none, .int .i64 7]) (by simp [results, Try.results27, go_sem]) rfl ⟨hB7.out, .inl ⟨by rw [show rowsL n r (n + 1) = rowsL n r I from by rw [HQ'.out]]; exact ha, rfl⟩⟩
        · cases ez : zoneR n (tgAll n (rowsL n r I) m (startR n (n + 1) 0)) with
          | none =>
            rw [ez] at hz
            obtain rfl := hz
            go_wp2_with fail
            exact bodyPost_ret (v := .tuple #[.pointer none, .int .i64 10]) (by simp [results, Try.results27, go_sem]) rfl ⟨hB7.out, .inr ⟨by rw [show rowsL n r (n + 1) = rowsL n r I from by rw [HQ'.out]]; exact ha, by rw [show rowsL n r (n + 1) = rowsL n r I from by rw [HQ'.out], ez]; exact rfl⟩⟩
          | some c =>
            rw [ez] at hz
            obtain ⟨b', hb', rfl, hz⟩ := hz
            go_wp2_with fail
            exact bodyPost_ret (v := .tuple #[.pointer (some ⟨b', 0, none⟩), .int .i64 0]) (by simp [results, Try.results27, go_sem]) rfl ⟨hB7.out, .inr ⟨by rw [show rowsL n r (n + 1) = rowsL n r I from by rw [HQ'.out]]; exact ha, by rw [show rowsL n r (n + 1) = rowsL n r I from by rw [HQ'.out], ez]; exact ⟨b', Nat.le_trans hsz hb', rfl, hz⟩⟩⟩
end Go.Proofs.Ytjanibholjimkaa
