/-
  The walk of the statement OpsHull.
-/
import Derived.Test.YtfffcmelkdmjaaaDoorWwz
namespace Go.Proofs.YtfffcmelkdmjaaaDoor
open Go.RowKit
set_option linter.unusedVariables false
set_option maxRecDepth 100000
theorem ptrs_apart {w : World} {base q b n : Nat} {T : TypeId} {u : Value} {zs : List (Nat × Row)} {c : Row} (h : w.ownsRow base T 1 u q (zs.map pv)) (hq : zs.length = q) (h0 : q = 0 → u = .slice none 0 0) (hz : ZoneAt w b n c) : some b ≠ u.ownBlock := by
  intro e
  rcases h.2 with ⟨hv, _⟩ | ⟨g, cap, cur, hv, _⟩
  · subst hv; simp [Value.ownBlock] at e
  · by_cases q0 : q = 0
    · rw [h0 q0] at e; simp [Value.ownBlock] at e
    · subst hv
      simp [Value.ownBlock] at e
      subst e
      have c1 := h.cellAt 0 (by omega)
      rw [hz.clocks, List.getElem?_map] at c1
      have e : zs[0]? = some (zs.getD 0 (0, fun _ => 0)) := by simp [List.getD, show 0 < zs.length by omega]
      rw [e] at c1
      simp [pv] at c1
theorem ZoneAt.grown {w w' : World} {b n : Nat} {c : Row} {row : Option Nat} (h : ZoneAt w b n c) (hg : w.grownBy w' row) (hr : some b ≠ row) : ZoneAt w' b n c :=
  have k := hg.block b h.lt hr
  ⟨(World.cell?_of_block k).trans h.clocks, fun j hj => (World.cell?_of_block (a := ⟨b, 1 + j, none⟩) k).trans (h.cell j hj), fun j hj => (World.frozen?_of_block (a := ⟨b, 1 + j, none⟩) k).trans (h.free j hj)⟩
set_option maxHeartbeats 8000000 in
theorem opsHull.walk (n : Int) (hn : (Lit.int .i64 n).wf = true) (v : Value) (l : List Int) (ad : Option Addr) (len cap : Nat) (V : Nat → Value) (L : Nat → List Int) (w : World) (ht : Pow w) (hS : SliceAt w v l) (wf : ∀ z ∈ l, (Lit.int .i32 z).wf = true) (hby : l.length * 4 ≤ 140737488355328) (hnil : ∀ {c}, v = .slice none 0 c → c = 0) (hB2 : Bss w ad len V L) (hby2 : len * 24 ≤ 140737488355328) :
    Calls Tryd.prog 10 #[.int .i64 n, v, .slice ad len cap] w fun e w' => e = .returned (.bool true) ∧ Below w.heap.size w w' := by
  obtain ⟨k1, o1, s1, -, z1, N1⟩ := two_of n v l w hS (wf_cells wf) (by omega)
  have HOf : Hid (∀ k, k < len → ∃ kk o, SayP w 41 #[.int .i64 n, V k] kk o ∧ ZCo o ∧ ∀ N c, o = some (N, c) → n = (N : Int)) := fun k hk => by
    obtain ⟨b, off, -, -, h1, h2, h3⟩ := hB2 k hk
    obtain ⟨kk, o, g1, -, g2, g3⟩ := two_of n (V k) (L k) w h1 (wf_cells h2) h3
    exact ⟨kk, o, g1, g2, g3⟩
  have HV : Hid (∀ k, k < len → ∃ b off, ad = some ⟨b, off, none⟩ ∧ w.cell? ⟨b, off + k, none⟩ = some (V k)) := fun k hk => by
    obtain ⟨b, off, h1, h2, -⟩ := hB2 k hk
    exact ⟨b, off, h1, h2⟩
  have HL := hideD (olive_any w ht)
  have S1 := hideD s1
  have len1 : (len : Int) ≤ 140737488355328 := by omega
  clear s1 hS wf hnil hby ht hn hB2
  go_enter Tryd.func10, Tryd.ntmps10
  go_wp2_with fail
  refine HL.out.mono ?_
  rintro e w1 ⟨rfl, hb1⟩
  have B1 := hideD hb1
  have S11 := hideD (S1.out _ hb1)
  clear HL hb1 S1
  go_wp2_with fail
  refine S11.out.mono ?_
  rintro e w2 ⟨⟨p, rfl, hp⟩, hb2⟩
  have B2 := hideD (beyondD B1.out hb2.out)
  clear S11 hb2 B1
  cases o1 with
  | none =>
    obtain rfl := hp.out
    clear hp z1 N1 HOf HV
    go_wp2_with fail
    go_ret
    exact ⟨rfl, B2.out⟩
  | some x =>
    obtain ⟨N, c⟩ := x
    obtain ⟨hN, c1, b, rfl, hz1⟩ := hp.out
    obtain rfl := N1 N c rfl
    have zc1 := z1 N c rfl
    have HZ := hideD hz1
    have HC := hideD zc1
    have H32 := hideD c1
    obtain ⟨i0, hi0, hzz0, hzz1, hzz2⟩ := info3 info_zp
    obtain ⟨m, hm⟩ : ∃ m, m = (N + 1) * (N + 1) := ⟨_, rfl⟩
    rw [← hm] at HC
    have HM := hideD hm
    clear hp z1 N1 hz1 zc1 c1 hm
    go_wp2_with fail
    go_loopw [9, 10] (fun u i wr => ∃ (I q : Nat) (zs : List (Nat × Row)), I ≤ len ∧ q ≤ I ∧ i = .int .i64 (I : Int) ∧ Hid (zs.length = q) ∧ Hid (wr.ownsRow w2.heap.size 23 1 u q (zs.map pv)) ∧ Hid (ZL wr N m zs) ∧ Hid (q = 0 → u = .slice none 0 0) ∧ Hid (Below w2.heap.size w2 wr)) (fun _ i _ => len - (intOf i).toNat)
    case atStart => exact ⟨0, 0, [], by omega, by omega, rfl, rfl, World.ownsRow_nil _ _ _ _, fun e he => (by cases he), fun _ => rfl, Below.refl _ _⟩
    case round =>
      obtain ⟨I, q, zs, hI, hqI, rfl, hq, hown, hzl, hq0, hB⟩ := hrel
      by_cases ci : I + 1 < len
      · have i0' : (0 : Int) ≤ (I : Int) := by omega
        have i1 : (I : Int) + 1 < (len : Int) := by omega
        have i2 : (I : Int) < (len : Int) := by omega
        obtain ⟨gb, off, rfl, c0'⟩ := HV.out I (by omega)
        have B02 := hideD (beyondD B2.out hB.out)
        have c0 := kc _ _ B02.out c0'
        obtain ⟨kk, o, sP, zC, nN⟩ := HOf.out I (by omega)
        have SP := hideD (sP wr B02.out)
        have ZC' := hideD zC
        have NN := hideD nN
        clear c0' sP zC nN
        generalize V I = vI at *
        go_wp2_with fail
        refine SP.out.mono ?_
        rintro e w4 ⟨⟨p4, rfl, hp4⟩, hb4⟩
        have own4 := hideD (own_past hown.out hb4.out)
        have zl4 := hideD (hzl.out.past hb4.out)
        have B4 := hideD (beyondD hB.out hb4.out)
        clear SP hown hzl hB hb4 B02 c0
        cases o with
        | none =>
          obtain rfl := hp4.out
          clear hp4 ZC' NN
          go_wp2_with fail
          go_roundw
          case rel => exact ⟨I + 1, q, zs, by omega, by omega, by go_num, hq, own4, zl4, hq0, B4⟩
          case measure => simp [intOf]; omega
        | some x =>
          obtain ⟨N', c'⟩ := x
          obtain ⟨-, c32', b4, rfl, hz4⟩ := hp4.out
          obtain rfl : N = N' := by have := NN.out N' c' rfl; omega
          have zc4 := ZC'.out N c' rfl
          rw [← HM.out] at zc4
          have hsz := B4.out.size
          have zl5 : Hid (ZL (w4.alloc (.cells #[.pointer (some ⟨b4, 0, none⟩)] 23)) N m (zs ++ [(b4, c')])) := fun e he => by
            rcases List.mem_append.1 he with he | he
            · exact (zl4.out.past (below_one _ _)) e he
            · rw [List.mem_singleton] at he
              subst he
              exact ⟨hz4.past (below_one _ _), c32', zc4⟩
          have ap : Hid (∀ e ∈ zs ++ [(b4, c')], some e.1 ≠ Value.ownBlock _) := fun e he => ptrs_apart own4.out hq.out hq0.out (b := e.1) (n := N) (c := e.2) (by
            rcases List.mem_append.1 he with he | he
            · exact (zl4.out e he).1
            · rw [List.mem_singleton] at he
              subst he
              exact hz4)
          have HN : Hid (∀ j u, [Value.pointer (some ⟨b4, 0, none⟩)][j]? = some u → (w4.alloc (.cells #[.pointer (some ⟨b4, 0, none⟩)] 23)).cell? ((⟨w4.heap.size, 0, none⟩ : Addr).add j) = some u) := by
            intro j u hj
            rw [Addr.add_lit, World.cell?_alloc_at _ _ _ _ rfl]
            simpa using hj
          clear hp4 ZC' NN zl4 hz4 c32' zc4
          go_wp2_with (at_builtin; refine wpList_append_own _ rfl _ _ 53 rfl w2.heap.size 23 i0 (.pointer none) 1 8 Tryd.underlying53 hi0 hzz0 hzz1 hzz2 rfl (by decide) _ q (zs.map pv) rfl (own4.out.alloc _) ⟨w4.heap.size, 0, none⟩ 1 1 [.pointer (some ⟨b4, 0, none⟩)] rfl rfl HN.out (fun u hu => by simp at hu; subst hu; rfl) (by unfold maxLen; omega) (by omega) (by simp; omega) ?_; intro v' w5 hown' hgrow hnil)
          have hb5 : Below w2.heap.size w2 w5 := (B4.out.alloc hsz _).grown hgrow (by simp; omega) (by intro q hq; exact (own4.out.lt q hq).1)
          have B5 := hideD hb5
          have zl6 : Hid (ZL w5 N m (zs ++ [(b4, c')])) := fun e he => ⟨(zl5.out e he).1.grown hgrow (ap.out e he), (zl5.out e he).2⟩
          have own6 : Hid (w5.ownsRow w2.heap.size 23 1 v' (q + 1) ((zs ++ [(b4, c')]).map pv)) := by
            show World.ownsRow _ _ _ _ _ _ _
            rw [List.map_append]
            exact hown'
          have hq6 : Hid ((zs ++ [(b4, c')]).length = q + 1) := by have := hq.out; show _ = _; simp [this]
          clear hown' hgrow hnil hb5 own4 HN B4 zl5 ap
          exact ⟨⟨I + 1, q + 1, _, by omega, by omega, by go_num, hq6, own6, zl6, (fun h => absurd h (Nat.succ_ne_zero q)), B5⟩, by simp [intOf]; omega⟩
      · have i1 : ¬ ((I : Int) + 1 < (len : Int)) := by omega
        obtain ⟨wb, hwb⟩ : ∃ wb, wb = wr := ⟨_, rfl⟩
        subst hwb
        have i0' : (0 : Int) ≤ (I : Int) := by omega
        obtain ⟨ap, capp, rfl, hpt⟩ := own_ptrs hown.out hq.out
        have q9 : q ≤ 9223372036854775807 := by omega
        have q8 : (q : Int) ≤ 9223372036854775807 := by omega
        have HU := hideD (hull_say (cap := capp) hN HM.out (HZ.out.past hB.out) H32.out HC.out hzl.out hq.out q9 hpt)
        have PT := hideD hpt
        have mp : Hid (0 < m) := by show 0 < m; rw [HM.out]; exact Nat.mul_pos (Nat.succ_pos N) (Nat.succ_pos N)
        have INC : Hid (∀ b o (c d : Row) w, ZoneAt w b N c → ZoneAt w o N d → _) := fun b o c d w h1 h2 => inc_any b o N m c d w h1 h2 hN HM.out
        have G1 := hideD (hr_incl (c := c) (zc := zR zs) mp.out q).1
        have G2 := hideD (hr_incl (c := c) (zc := zR zs) mp.out q).2
        have G3 : Hid (∀ o : Row, incB m o c = true → (∀ k, k < q → incB m o (zR zs k) = true) → incB m o (hr c (zR zs) q) = true) := fun o h1 h2 => hr_least mp.out h1 q h2
        have ZLk : Hid (∀ w', Below wb.heap.size wb w' → ∀ k, k < q → ZoneAt w' (zB zs k) N (zR zs k)) := fun w' hb k hk => (hzl.out.past hb).at (by have := hq.out; omega)
        have Zz : Hid (∀ w', Below wb.heap.size wb w' → ZoneAt w' b N c) := fun w' hb => (HZ.out.past hB.out).past hb
        have OFK : Hid (len ≠ 0 → ∃ vI gb off kk o, ad = some ⟨gb, off, none⟩ ∧ w.cell? ⟨gb, off + (len - 1), none⟩ = some vI ∧ SayP w 41 #[.int .i64 (N : Int), vI] kk o ∧ ∀ N' c', o = some (N', c') → N = N') := fun h => by
          obtain ⟨gb, off, h1, h2⟩ := HV.out (len - 1) (by omega)
          obtain ⟨kk, o, h3, -, h4⟩ := HOf.out (len - 1) (by omega)
          exact ⟨V (len - 1), gb, off, kk, o, h1, h2, h3, fun N' c' e => by have := h4 N' c' e; omega⟩
        have B02 := hideD (beyondD B2.out hB.out)
        clear hown hzl hpt hq0 HZ HC H32 HOf HV hB B2 hzz0 hzz1 hzz2 hi0
        go_wp2_with fail
        refine HU.out.mono ?_
        rintro e w5 ⟨⟨BB, h, -, rfl, hzh⟩, hb5⟩
        have ZH := hideD hzh
        have B5 := hideD hb5
        have I1 := INC.out h b _ _ w5 hzh (Zz.out _ hb5)
        rw [G1.out] at I1
        have I1 := hideD I1
        clear HU hzh hb5 G1
        go_wp2_with fail
        refine I1.out.mono ?_
        rintro e w6 ⟨rfl, hb6⟩
        have B6 := hideD (beyondD B5.out hb6)
        have ZH6 := hideD (ZH.out.past hb6)
        clear I1 hb6 ZH B5
        go_wp2_with fail
        go_loopw [16] (fun s w' => ∃ K : Nat, K ≤ q ∧ s = .int .i64 (K : Int) ∧ Hid (ZoneAt w' h N (hr c (zR zs) q)) ∧ Hid (Below wb.heap.size wb w')) (fun s _ => q - (intOf s).toNat)
        case atStart => exact ⟨0, by omega, rfl, ZH6, B6⟩
        case round =>
          obtain ⟨K, hK, rfl, zh, bk⟩ := hrel
          clear ZH6 B6
          by_cases ck : K < q
          · have k0 : (0 : Int) ≤ (K : Int) := by omega
            have k1 : (K : Int) < (q : Int) := by omega
            obtain ⟨g, rfl, c0'⟩ := PT.out K ck
            have c0 := kc _ _ bk.out c0'
            have I2 := INC.out h (zB zs K) _ _ wr zh.out (ZLk.out _ bk.out K ck)
            rw [G2.out K ck] at I2
            have I2 := hideD I2
            clear c0'
            go_wp2_with fail
            refine I2.out.mono ?_
            rintro e w7 ⟨rfl, hb7⟩
            have zh7 := hideD (zh.out.past hb7)
            have bk7 := hideD (beyondD bk.out hb7)
            clear I2 hb7 zh bk c0
            go_wp2_with fail
            go_roundw
            case rel => exact ⟨K + 1, by omega, by go_num, zh7, bk7⟩
            case measure => simp [intOf]; omega
          · have k1 : ¬ ((K : Int) < (q : Int)) := by omega
            clear G2
            by_cases l0 : len = 0
            · have BF := hideD (beyondD B02.out bk.out)
              subst l0
              clear OFK ZLk INC PT
              go_wp2_with fail
              go_ret
              exact ⟨rfl, BF.out⟩
            · obtain ⟨vI, gb, off, kk, o, rfl, c0', sP, nN⟩ := OFK.out l0
              obtain ⟨J, hJ⟩ : ∃ J, J = len - 1 := ⟨_, rfl⟩
              rw [← hJ] at c0'
              have c0 := kc _ _ (beyondD B02.out bk.out) c0'
              have SP := hideD (sP wr (beyondD B02.out bk.out))
              have lj : (len : Int) - 1 = (J : Int) := by omega
              have l1 : ¬ (len : Int) = 0 := by omega
              have j0 : (0 : Int) ≤ (J : Int) := by omega
              have j1 : (J : Int) < (len : Int) := by omega
              have NN := hideD nN
              clear c0' sP nN hJ OFK
              go_wp2_with fail
              refine SP.out.mono ?_
              rintro e w7 ⟨⟨p7, rfl, hp7⟩, hb7⟩
              have zh7 := hideD (zh.out.past hb7.out)
              have bk7 := hideD (beyondD bk.out hb7.out)
              clear SP hb7 zh bk c0
              cases o with
              | none =>
                obtain rfl := hp7.out
                clear hp7 NN
                go_wp2_with fail
                go_loopw [15, 19] (fun a s w' => a = .bool false ∧ s = .int .i64 0 ∧ Hid (Below wb.heap.size wb w')) (fun _ _ _ => 1)
                case atStart => exact ⟨rfl, rfl, bk7⟩
                case round =>
                  obtain ⟨rfl, rfl, bk8⟩ := hrel
                  have BF := hideD (beyondD B02.out bk8.out)
                  by_cases q0 : (0 : Int) < (q : Int)
                  · go_wp2_with fail
                    go_ret
                    exact ⟨rfl, BF.out⟩
                  · go_wp2_with fail
                    go_ret
                    exact ⟨rfl, BF.out⟩
              | some x =>
                obtain ⟨N', d⟩ := x
                obtain ⟨-, c32', b7, rfl, hz7⟩ := hp7.out
                obtain rfl := NN.out N' d rfl
                have I3 := hideD (INC.out b7 b d c w7 hz7 (Zz.out _ bk7.out))
                have Z7 := hideD hz7
                have T3 : Hid (incB m d c = true → incB m d c = true) := fun h => h
                generalize e3 : incB m d c = t3 at I3 T3
                have E3 := hideD e3
                clear hp7 NN hz7 e3 T3
                go_wp2_with fail
                refine I3.out.mono ?_
                rintro e w8 ⟨rfl, hb8⟩
                have zh8 := hideD (zh7.out.past hb8)
                have Z8 := hideD (Z7.out.past hb8)
                have bk8 := hideD (beyondD bk7.out hb8)
                clear I3 hb8 zh7 Z7 bk7
                go_wp2_with fail
                go_loopw [15, 19] (fun a s w' => ∃ (K : Nat) (t : Bool), K ≤ q ∧ a = .bool t ∧ s = .int .i64 (K : Int) ∧ Hid (t = true → incB m d c = true ∧ ∀ k, k < K → incB m d (zR zs k) = true) ∧ Hid (ZoneAt w' b7 N d) ∧ Hid (ZoneAt w' h N (hr c (zR zs) q)) ∧ Hid (Below wb.heap.size wb w')) (fun _ s _ => q - (intOf s).toNat)
                case atStart => exact ⟨0, _, by omega, rfl, rfl, fun ht => ⟨by rw [E3.out]; simpa using ht, fun k hk => by omega⟩, Z8, zh8, bk8⟩
                case round =>
                  obtain ⟨K, t, hK, rfl, rfl, hT, Z9, zh9, bk9⟩ := hrel
                  clear Z8 zh8 bk8
                  have k0 : (0 : Int) ≤ (K : Int) := by omega
                  cases t with
                  | false =>
                    have BF := hideD (beyondD B02.out bk9.out)
                    clear hT Z9 zh9 bk9
                    by_cases q0 : (K : Int) < (q : Int)
                    · go_wp2_with fail
                      go_ret
                      exact ⟨rfl, BF.out⟩
                    · go_wp2_with fail
                      go_ret
                      exact ⟨rfl, BF.out⟩
                  | true =>
                    obtain ⟨T1, T2⟩ := hT.out rfl
                    by_cases ck : K < q
                    · have k1 : (K : Int) < (q : Int) := by omega
                      obtain ⟨g, rfl, c0'⟩ := PT.out K ck
                      have c0 := kc _ _ bk9.out c0'
                      have I4 := INC.out b7 (zB zs K) _ _ wr Z9.out (ZLk.out _ bk9.out K ck)
                      have T4 : Hid (incB m d (zR zs K) = true → incB m d c = true ∧ ∀ k, k < K + 1 → incB m d (zR zs k) = true) := fun h => ⟨T1, fun k hk => by
                        by_cases e : k = K
                        · rw [e]; exact h
                        · exact T2 k (by omega)⟩
                      have I4 := hideD I4
                      generalize incB m d (zR zs K) = t4 at I4 T4
                      clear c0' T1 T2 hT
                      go_wp2_with fail
                      refine I4.out.mono ?_
                      rintro e w10 ⟨rfl, hb10⟩
                      have Z10 := hideD (Z9.out.past hb10)
                      have zh10 := hideD (zh9.out.past hb10)
                      have bk10 := hideD (beyondD bk9.out hb10)
                      clear I4 hb10 Z9 zh9 bk9 c0
                      go_wp2_with fail
                      go_roundw
                      case rel => exact ⟨K + 1, t4, by omega, rfl, by go_num, T4, Z10, zh10, bk10⟩
                      case measure => simp [intOf]; omega
                    · have k1 : ¬ ((K : Int) < (q : Int)) := by omega
                      have eK : K = q := by omega
                      have I5 := INC.out b7 h _ _ wr Z9.out zh9.out
                      rw [G3.out d T1 (fun k hk => T2 k (by omega))] at I5
                      have I5 := hideD I5
                      have BF := hideD (beyondD B02.out bk9.out)
                      clear T1 T2 hT Z9 zh9 bk9 eK
                      go_wp2_with fail
                      refine I5.out.mono ?_
                      rintro e w10 ⟨rfl, hb10⟩
                      have BG := hideD (beyondD BF.out hb10)
                      clear I5 hb10 BF
                      go_wp2_with fail
                      go_ret
                      exact ⟨rfl, BG.out⟩
end Go.Proofs.YtfffcmelkdmjaaaDoor
