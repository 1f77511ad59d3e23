/-
  The document's Infs and Limits.
-/
import Derived.Test.YtbcfaepmhlanjaaGb
import Derived.Test.YtbcfaepmhlanjaaEt
namespace Go.Proofs.Ytbcfaepmhlanjaa
open Go.RowKit
set_option linter.unusedVariables false
set_option maxRecDepth 100000
theorem rep_next (k : Nat) (x : Value) : List.replicate (k + 1) x = List.replicate k x ++ [x] := List.replicate_succ'
set_option maxHeartbeats 2000000 in
theorem rinfs_any (n m : Nat) (w : World) (hn : n ≤ 8) (hm : m = (n + 1) * (n + 1)) :
    Calls Try.prog 34 #[.int .i64 n] w fun e w' => (∃ g cap, e = .returned (.slice (some ⟨g, 0, none⟩) m cap) ∧ w.heap.size ≤ g ∧ g < w'.heap.size ∧ (∀ p, p < m → w'.cell? ⟨g, p, none⟩ = some (.int .i32 2147483647)) ∧ ∀ p, w'.frozen? ⟨g, p, none⟩ = false) ∧ Below w.heap.size w w' := by
  have mp : 0 < m := by rw [hm]; exact Nat.mul_pos (by omega) (by omega)
  have m81 : m ≤ 81 := by rw [hm]; exact Nat.mul_le_mul (show n + 1 ≤ 9 by omega) (show n + 1 ≤ 9 by omega)
  obtain ⟨i0, hi0, hz0, hz1, hz2⟩ := info_parts info_bd
  have e0 : IntKind.i64.wrap ((n : Int) + 1) = (n : Int) + 1 := by rw [IntKind.wrap_i64]; omega
  have e1 : IntKind.i64.wrap (((n : Int) + 1) * ((n : Int) + 1)) = (m : Int) := by
    have : ((n : Int) + 1) * ((n : Int) + 1) = (((n + 1) * (n + 1) : Nat) : Int) := by simp
    rw [this, ← hm, IntKind.wrap_i64]
    omega
  clear hm
  have m1 : (m : Int) ≤ 81 := by omega
  go_enter Try.func34, Try.ntmps34
  go_wp2_with fail
  go_loopw [3, 4] (fun v i wr => ∃ k : Nat, k ≤ m ∧ i = .int .i64 k ∧ Hid (wr.ownsRow w.heap.size 37 1 v k (List.replicate k (.int .i32 2147483647))) ∧ Hid (Below w.heap.size w wr)) (fun _ i _ => m - (intOf i).toNat)
  case atStart => exact ⟨0, Nat.zero_le _, rfl, World.ownsRow_nil _ _ _ _, Below.refl _ _⟩
  case round =>
    obtain ⟨k, hk, rfl, hown, hB⟩ := hrel
    by_cases hlt : k < m
    · have hsz := hB.out.size
      have k1 : (k : Int) < (m : Int) := by omega
      have HN : Hid (∀ j u, [Value.int .i32 2147483647][j]? = some u → (wr.alloc (.cells #[.int .i32 2147483647] 37)).cell? ((⟨wr.heap.size, 0, none⟩ : Addr).add j) = some u) := by
        intro j u hj
        match j, hj with
        | 0, hj => simp at hj; subst hj; simp [Addr.add]
      go_wp2_with (at_builtin; refine wpList_append_own _ rfl _ _ 22 rfl w.heap.size 37 i0 (.int .i32 0) 1 4 Try.underlying22 hi0 hz0 hz1 hz2 rfl (by decide) _ k (List.replicate k (.int .i32 2147483647)) rfl (hown.out.alloc _) ⟨wr.heap.size, 0, none⟩ 1 1 [.int .i32 2147483647] rfl rfl HN.out (fun u hu => by simp at hu; subst hu; rfl) (by unfold maxLen; omega) (by omega) (by simp; omega) ?_; intro v' w1 hown' hgrow hnil)
      have hb1 : Below w.heap.size w w1 := (hB.out.alloc hsz _).grown hgrow (by simp; omega) (by intro q hq; exact (hown.out.lt q hq).1)
      have hb2 := hideD hb1
      have nx' : Hid (w1.ownsRow w.heap.size 37 1 v' (k + 1) (List.replicate (k + 1) (.int .i32 2147483647))) := by
        show w1.ownsRow _ _ _ _ _ _
        rw [rep_next]
        exact hown'
      clear hown' hgrow hnil hb1 hown HN
      go_wp2_with fail
      go_roundw
      case rel => exact ⟨k + 1, by omega, by go_num, nx', hb2⟩
      case measure => simp [intOf]; omega
    · obtain rfl : k = m := by omega
      have ho := hown.out
      obtain ⟨m', rfl⟩ : ∃ m', k = m' + 1 := ⟨k - 1, by omega⟩
      obtain ⟨g, cap, rfl⟩ := own_form ho
      have lt := ho.lt g rfl
      have HC : Hid (∀ p, p < m' + 1 → wr.cell? ⟨g, p, none⟩ = some (.int .i32 2147483647)) := fun p hp => by
        rw [ho.cellAt p (by omega)]
        simp [hp]
      have HF : Hid (∀ p, wr.frozen? ⟨g, p, none⟩ = false) := fun p => ho.frozenAt p
      have k2 : ¬ ((m' : Int) + 1 < (m' : Int) + 1) := by omega
      clear ho hown hlt
      go_wp2_with fail
      go_ret
      refine ⟨?_, hB.out⟩
      exact ⟨g, ⟨cap, rfl⟩, lt.1, lt.2, HC.out, HF.out⟩
set_option maxHeartbeats 4000000 in
theorem rlimits_main (n cb off cap m : Nat) (L : Lims) (w : World) (h : n ≤ 8) (hm : m = (n + 1) * (n + 1)) (hR : LimRow w cb off L) (hcb : cb < w.heap.size) (hi : ∀ k, k < L.q → -2147483648 ≤ L.b k ∧ L.b k ≤ 2147483647) (hq : L.q ≤ 9223372036854775807) :
    Calls Try.prog 9 #[.int .i64 n, .slice (some ⟨cb, off, none⟩) L.q cap] w fun e w' => Below w.heap.size w w' ∧
      ((okAll n L L.q = false ∧ e = errOf 7) ∨ (okAll n L L.q = true ∧ ∃ B', RZoneOut w' B' n e ((zoneR n (tlAll L L.q (startR n (n + 1) 0))).map (fun c => listOf c m)))) := by
  have mp : 0 < m := by rw [hm]; exact Nat.mul_pos (by omega) (by omega)
  have m81 : m ≤ 81 := by rw [hm]; exact Nat.mul_le_mul (show n + 1 ≤ 9 by omega) (show n + 1 ≤ 9 by omega)
  have IN := hideD (rinfs_any n m w h hm)
  have LT : Hid (∀ i j, i ≤ n → j ≤ n → i * (n + 1) + j < m) := fun i j hi hj => by rw [hm]; exact pos_lt hi hj
  have OF : Hid (okAll n L L.q = true → ∀ g cap w', (∀ p, p < m → w'.cell? ⟨g, p, none⟩ = some (.int .i32 (rlAll n L L.q p))) → Calls Try.prog 27 #[.int .i64 n, .slice (some ⟨g, 0, none⟩) m cap] w' fun e w'' => RZoneOut w'' w'.heap.size n e ((zoneR n (tlAll L L.q (startR n (n + 1) 0))).map (fun c => listOf c m)) ∧ Below w'.heap.size w' w'') := fun ok g cap w' hc => by
    have ll := listOf_len (rlAll n L L.q) m
    have rr := rl_right ok
    have hR' : RowAt w' g 0 (listOf (rlAll n L L.q) m) := fun p hp => by
      rw [ll] at hp
      rw [Nat.zero_add, hc p hp, listOf_get _ _ _ hp]
    have hi' : ∀ j, j < (listOf (rlAll n L L.q) m).length → -2147483648 ≤ (listOf (rlAll n L L.q) m).getD j 0 ∧ (listOf (rlAll n L L.q) m).getD j 0 ≤ 2147483647 := fun j hj => by
      rw [listOf_get _ _ _ (by omega)]
      have := rr j
      unfold rightB at this
      simp at this
      omega
    have P := rof_main n g 0 cap (listOf (rlAll n L L.q) m) w' h (by omega) hR' hi'
    have os := of_same n (listOf (rlAll n L L.q) m) (by omega) (fun j hj => (hi' j (by omega)).2)
    rw [ll] at P os
    rw [lims_same hm ok, ← hm] at os
    refine P.mono ?_
    rintro e w'' ⟨hb, ⟨h1, -⟩ | ⟨-, h1⟩⟩
    · exfalso
      rw [allRight_of _ _ (fun j hj => by rw [listOf_get _ _ _ hj]; exact rr j)] at h1
      cases h1
    · rw [os] at h1
      exact ⟨h1, hb⟩
  have HR := hideD hR
  have HI := hideD hi
  clear hR hi hm
  generalize (zoneR n (tlAll L L.q (startR n (n + 1) 0))).map (fun c => listOf c m) = Z at *
  generalize em : L.q = q at *
  have EM := hideD em
  clear em
  have m1 : (m : Int) ≤ 81 := by omega
  have q1 : (q : Int) ≤ 9223372036854775807 := by omega
  go_enter Try.func9, Try.ntmps9
  go_wp2_with fail
  refine IN.out.mono ?_
  rintro e w1 ⟨⟨g, capg, rfl, lg, lt, hc, hf⟩, hb⟩
  have HC : Hid (∀ p, p < m → w1.cell? ⟨g, p, none⟩ = some (.int .i32 (rlAll n L 0 p))) := hc
  have HF := hideD hf
  have B1 := hideD hb
  clear hc hf hb IN
  go_wp2_with fail
  go_loopw [7] (fun s wr => ∃ (K : Nat), K ≤ q ∧ s = .int .i64 K ∧ Hid (okAll n L K = true) ∧ Hid (∀ p, p < m → wr.cell? ⟨g, p, none⟩ = some (.int .i32 (rlAll n L K p))) ∧ Hid (∀ p, wr.frozen? ⟨g, p, none⟩ = false) ∧ Hid (Below w.heap.size w wr) ∧ Hid (g < wr.heap.size)) (fun s _ => q - (intOf s).toNat)
  case atStart => exact ⟨0, by omega, rfl, rfl, HC, HF, B1, lt⟩
  case round =>
    obtain ⟨K, hK, rfl, hq', HC, HF, hB, lg2⟩ := hrel
    by_cases ck : K < q
    · obtain ⟨c1, c2, c3⟩ := (HR.out.later hB.out hcb) K (by rw [EM.out]; exact ck)
      obtain ⟨x0, x1⟩ := HI.out K ck
      have st : Hid (okAll n L (K + 1) = (decide (0 ≤ L.i K ∧ L.i K ≤ n ∧ 0 ≤ L.j K ∧ L.j K ≤ n) && rightB (L.b K))) := by show okAll n L (K + 1) = _; rw [okAll, hq'.out, Bool.true_and]; rfl
      have nx : Hid (rlAll n L (K + 1) = if L.b K < rlAll n L K ((L.i K).toNat * (n + 1) + (L.j K).toNat) then updR (rlAll n L K) ((L.i K).toNat * (n + 1) + (L.j K).toNat) (L.b K) else rlAll n L K) := rfl
      have i0 : (0 : Int) ≤ (K : Int) := by omega
      have i1 : (K : Int) < (q : Int) := by omega
      have RT : Hid (∀ w, Calls Try.prog 35 #[.int .i32 (L.b K)] w fun e w' => e = .returned (.bool (rightB (L.b K))) ∧ w' = w) := fun w => rright_any _ w x0 x1
      have FA : Hid (decide (0 ≤ L.i K ∧ L.i K ≤ n ∧ 0 ≤ L.j K ∧ L.j K ≤ n) = false ∨ rightB (L.b K) = false → okAll n L q = false) := fun h => okAll_false (k := K + 1) q (by omega) (st.out.trans (by rcases h with h | h <;> rw [h] <;> simp))
      have b2 := below_one wr (.cells #[.int .i64 (L.i K), .int .i64 (L.j K), .int .i32 (L.b K)] 39)
      generalize L.i K = x at *
      generalize L.j K = y at *
      generalize L.b K = z at *
      by_cases p1 : x < 0
      · have F1 := hideD (FA.out (.inl (decide_eq_false (by omega))))
        go_wp2_with fail
        refine bodyPost_ret (v := .tuple #[.pointer none, .int .i64 7]) (by simp [results, Try.results9, go_sem]) rfl ⟨beyondD hB.out b2, .inl ⟨F1.out, rfl⟩⟩
      · by_cases p2 : (n : Int) < x
        · have F1 := hideD (FA.out (.inl (decide_eq_false (by omega))))
          go_wp2_with fail
          refine bodyPost_ret (v := .tuple #[.pointer none, .int .i64 7]) (by simp [results, Try.results9, go_sem]) rfl ⟨beyondD hB.out b2, .inl ⟨F1.out, rfl⟩⟩
        · by_cases p3 : y < 0
          · have F1 := hideD (FA.out (.inl (decide_eq_false (by omega))))
            go_wp2_with fail
            refine bodyPost_ret (v := .tuple #[.pointer none, .int .i64 7]) (by simp [results, Try.results9, go_sem]) rfl ⟨beyondD hB.out b2, .inl ⟨F1.out, rfl⟩⟩
          · by_cases p4 : (n : Int) < y
            · have F1 := hideD (FA.out (.inl (decide_eq_false (by omega))))
              go_wp2_with fail
              refine bodyPost_ret (v := .tuple #[.pointer none, .int .i64 7]) (by simp [results, Try.results9, go_sem]) rfl ⟨beyondD hB.out b2, .inl ⟨F1.out, rfl⟩⟩
            · cases er : rightB z with
              | false =>
                rw [er] at RT
                have F1 := hideD (FA.out (.inr er))
                clear er
                go_wp2_with fail
                refine (RT.out _).mono ?_
                rintro e' w3 ⟨rfl, rfl⟩
                go_wp2_with fail
                refine bodyPost_ret (v := .tuple #[.pointer none, .int .i64 7]) (by simp [results, Try.results9, go_sem]) rfl ⟨beyondD hB.out b2, .inl ⟨F1.out, rfl⟩⟩
              | true =>
                rw [er] at RT
                have st3 : Hid (okAll n L (K + 1) = true) := st.out.trans (by rw [er, decide_eq_true (by omega)]; rfl)
                clear er st FA
                obtain ⟨X, rfl⟩ := Int.eq_ofNat_of_zero_le (show 0 ≤ x by omega)
                obtain ⟨Y, rfl⟩ := Int.eq_ofNat_of_zero_le (show 0 ≤ y by omega)
                rw [Int.toNat_natCast, Int.toNat_natCast] at nx
                have lt3 := LT.out X Y (by omega) (by omega)
                have e0 : IntKind.i64.wrap ((n : Int) + 1) = (n : Int) + 1 := by rw [IntKind.wrap_i64]; omega
                have e1 : IntKind.i64.wrap ((X : Int) * ((n : Int) + 1)) = ((X * (n + 1) : Nat) : Int) := by
                  have : (X : Int) * ((n : Int) + 1) = ((X * (n + 1) : Nat) : Int) := by simp
                  rw [this, IntKind.wrap_i64]
                  generalize X * (n + 1) = z at *
                  omega
                have r1 := HC.out _ lt3
                have f3 := HF.out (X * (n + 1) + Y)
                generalize hP : X * (n + 1) = P at *
                have e2 : IntKind.i64.wrap ((P : Int) + (Y : Int)) = (P : Int) + (Y : Int) := by rw [IntKind.wrap_i64]; omega
                have e8 : (0 : Int) ≤ (P : Int) + (Y : Int) := by omega
                have e9 : ((P : Int) + (Y : Int)).toNat = P + Y := by omega
                have e5 : (P : Int) + (Y : Int) < (m : Int) := by omega
                go_wp2_with fail
                refine (RT.out _).mono ?_
                rintro e' w3 ⟨rfl, rfl⟩
                go_upto_region 10 with (fail)
                have f0 : (wr.alloc (.cells #[.int .i64 X, .int .i64 Y, .int .i32 z] 39)).cell? ⟨wr.heap.size, 0, none⟩ = some (.int .i64 X) := by simp [go_sem]
                have f1 : (wr.alloc (.cells #[.int .i64 X, .int .i64 Y, .int .i32 z] 39)).cell? ⟨wr.heap.size, 1, none⟩ = some (.int .i64 Y) := by simp [go_sem]
                have f2 : (wr.alloc (.cells #[.int .i64 X, .int .i64 Y, .int .i32 z] 39)).cell? ⟨wr.heap.size, 2, none⟩ = some (.int .i32 z) := by simp [go_sem]
                have s1 := kc _ _ b2 r1
                have s3 := kf _ _ b2 r1 f3
                have HC2 : Hid (∀ p, p < m → (wr.alloc (.cells #[.int .i64 X, .int .i64 Y, .int .i32 z] 39)).cell? ⟨g, p, none⟩ = some (.int .i32 (rlAll n L K p))) := fun p hp => kc _ _ b2 (HC.out p hp)
                have HF2 : Hid (∀ p, (wr.alloc (.cells #[.int .i64 X, .int .i64 Y, .int .i32 z] 39)).frozen? ⟨g, p, none⟩ = false) := fun p => (b2.frozen (p := ⟨g, p, none⟩) lg2.out).trans (HF.out p)
                have hB2 := hideD (beyondD hB.out b2)
                have lg3 : Hid (g < (wr.alloc (.cells #[.int .i64 X, .int .i64 Y, .int .i32 z] 39)).heap.size) := by
                  have := lg2.out
                  have := b2.size
                  show g < _
                  omega
                generalize wr.alloc (.cells #[.int .i64 X, .int .i64 Y, .int .i32 z] 39) = W2 at *
                generalize wr.heap.size = B at *
                clear b2 HC HF hB r1 f3 c1 c2 c3 lg2 hP
                generalize hy : rlAll n L K (P + Y) = v at *
                have HY := hideD hy
                clear hy
                by_cases cz : z < v
                · rw [if_pos cz] at nx
                  have RN : Hid (∀ k p, p < m → ((W2.drewN k).setCell ⟨g, P + Y, none⟩ (.int .i32 z)).cell? ⟨g, p, none⟩ = some (.int .i32 (rlAll n L (K + 1) p))) := fun k p hp => by
                    rw [nx.out]
                    unfold updR
                    by_cases qq : p = P + Y
                    · subst qq
                      rw [World.cell?_setCell_same _ _ _ (show (W2.drewN k).cell? ⟨g, P + Y, none⟩ = _ from HC2.out _ hp), if_pos rfl]
                    · rw [World.cell?_setCell_other _ _ _ _ (by intro e; injection e; omega), if_neg qq]
                      exact HC2.out p hp
                  have FN : Hid (∀ k p, ((W2.drewN k).setCell ⟨g, P + Y, none⟩ (.int .i32 z)).frozen? ⟨g, p, none⟩ = false) := fun k p => by
                    rw [World.frozen?_setCell]
                    exact HF2.out p
                  have BN : Hid (∀ k, Below w.heap.size w ((W2.drewN k).setCell ⟨g, P + Y, none⟩ (.int .i32 z))) := fun k => Below.setCell (p := ⟨g, P + Y, none⟩) (below_drewN hB2.out k) lg _
                  have LN : Hid (∀ k, g < ((W2.drewN k).setCell ⟨g, P + Y, none⟩ (.int .i32 z)).heap.size) := fun k => by
                    rw [World.size_setCell]
                    exact lg3.out
                  go_quiet (fail)
                  go_wp2_with fail
                  go_roundw
                  case rel => exact ⟨K + 1, by omega, by go_num, st3, RN.out _, FN.out _, BN.out _, LN.out _⟩
                  case measure => simp [intOf]; omega
                · rw [if_neg cz] at nx
                  go_quiet (fail)
                  go_wp2_with fail
                  go_roundw
                  case rel => exact ⟨K + 1, by omega, by go_num, st3, by rw [nx.out]; exact HC2, HF2, below_drewN hB2.out _, lg3⟩
                  case measure => simp [intOf]; omega
    · have stq : Hid (K = q) := by show K = q; omega
      have ok : Hid (okAll n L q = true) := by have e := stq.out; subst e; exact hq'
      have O := hideD (OF.out ok.out g capg wr (by have e := stq.out; subst e; exact HC.out))
      clear HC HF
      go_wp2_with fail
      refine O.out.mono ?_
      rintro e' w3 ⟨hz, hb⟩
      have hB3 := hideD (beyondD hB.out hb)
      clear O OF hb
      cases Z with
      | none =>
        obtain rfl := hz
        go_wp2_with fail
        exact bodyPost_ret (v := .tuple #[.pointer none, .int .i64 10]) (by simp [results, Try.results9, go_sem]) rfl ⟨hB3.out, .inr ⟨ok.out, 0, rfl⟩⟩
      | some l =>
        obtain ⟨b', rfl, hz⟩ := hz
        have HZ := hideD hz
        clear hz
        go_wp2_with fail
        exact bodyPost_ret (v := .tuple #[.pointer (some ⟨b', 0, none⟩), .int .i64 0]) (by simp [results, Try.results9, go_sem]) rfl ⟨hB3.out, .inr ⟨ok.out, _, b', rfl, HZ.out⟩⟩
end Go.Proofs.Ytbcfaepmhlanjaa
