/-
  The widening of extra: Gone, of, LU, Max of the program.
-/
import Derived.Test.YtohkbjkfpnhggaaZo
import Derived.Test.YtohkbjkfpnhggaaZm
import Derived.Test.YtohkbjkfpnhggaaPtAz
namespace Go.Proofs.Ytohkbjkfpnhggaa
open Go.RowKit
set_option linter.unusedVariables false
set_option maxRecDepth 100000
set_option maxHeartbeats 1000000 in
theorem cells_free (b n : Nat) (c : Row) (w : World) (hz : ZoneAt w b n c) (hn : n ≤ 8) :
    Calls Try.prog 50 #[.pointer (some ⟨b, 0, none⟩)] w fun e w' => (∃ g cap, e = .returned (.slice (some ⟨g, 0, none⟩) ((n + 1) * (n + 1)) cap) ∧ w.heap.size ≤ g ∧ g < w'.heap.size ∧ Hid (∀ k, k < (n + 1) * (n + 1) → w'.cell? ⟨g, k, none⟩ = some (.int .i32 (c k))) ∧ Hid (∀ j, w'.frozen? ⟨g, j, none⟩ = false)) ∧ Below w.heap.size w w' := by
  have HU := hideD (used_any b n w hn hz.clocks)
  have hm : (n + 1) * (n + 1) ≤ 81 := Nat.mul_le_mul (show n + 1 ≤ 9 by omega) (show n + 1 ≤ 9 by omega)
  have hp : 0 < (n + 1) * (n + 1) := Nat.mul_pos (by omega) (by omega)
  generalize (n + 1) * (n + 1) = m at *
  have hl := listOf_len c m
  obtain ⟨i0, hi, hz0, hz1, hz2⟩ := info_parts info_bd
  have HZ := hideD hz
  clear hz
  go_enter Try.func50, Try.ntmps50
  go_wp2_with fail
  refine HU.out.mono ?_
  rintro e w1 ⟨rfl, hb⟩
  have hZ1 := hideD (HZ.out.past hb)
  have hB1 := hideD hb
  have HN : Hid (∀ j u, ((listOf c m).map (Value.int .i32))[j]? = some u → w1.cell? ((⟨b, 1, none⟩ : Addr).add j) = some u) := by
    intro j u hu
    rw [Addr.add_lit]
    by_cases hj : j < m
    · rw [hZ1.out.cell j (by omega)]
      simp [listOf, hj] at hu
      simp [hu]
    · rw [List.getElem?_eq_none (by simp [hl]; omega)] at hu
      cases hu
  clear hb HU HZ
  go_wp2_with (at_builtin; refine wpList_append_own _ rfl _ _ 85 rfl w1.heap.size 41 i0 (.int .i32 0) 1 4 Try.underlying85 hi hz0 hz1 hz2 rfl (by decide) _ 0 [] rfl (World.ownsRow_nil _ _ _ _) ⟨b, 1, none⟩ m 81 ((listOf c m).map (Value.int .i32)) rfl (by simp [hl]) HN.out (fun x hx => by obtain ⟨z, _, rfl⟩ := List.mem_map.1 hx; rfl) (by unfold maxLen; omega) (by omega) (by omega) ?_; intro v' w2 hown hgrow hnil)
  have hb2 : Below w1.heap.size w1 w2 := (Below.refl _ _).grown hgrow (Nat.le_refl _) (by intro k hk; cases hk)
  go_ret
  have hown' : w2.ownsRow w1.heap.size 41 1 v' m ((listOf c m).map (Value.int .i32)) := by simpa using hown
  obtain ⟨m', rfl⟩ : ∃ m', m = m' + 1 := ⟨m - 1, by omega⟩
  obtain ⟨g', cap', rfl⟩ := own_form hown'
  have lt := hown'.lt g' rfl
  refine ⟨⟨g', cap', rfl, Nat.le_trans hB1.out.size lt.1, lt.2, fun k hk => ?_, fun j => hown'.frozenAt j⟩, beyondD hB1.out hb2⟩
  rw [hown'.cellAt k (by omega)]
  simp [listOf, hk]
theorem gone_err (v u : Value) (k : Int) (w : World) (H : Calls Try.prog 77 #[v, u] w fun e w' => e = errOf k ∧ Below w.heap.size w w') :
    Calls Try.prog 67 #[v, u] w fun e w' => e = errOf k ∧ Below w.heap.size w w' := by
  have H := hideD H
  go_enter Try.func67, Try.ntmps67
  go_wp2_with fail
  refine H.out.mono ?_
  rintro e w' ⟨rfl, hp⟩
  go_wp2_with fail
  exact bodyPost_ret (v := .tuple #[.pointer none, .int .i64 k]) (by simp [results, Try.results67, go_sem]) rfl ⟨rfl, hp⟩
theorem gone_tells (v u : Value) (n : Nat) (c1 : Row) (w : World) (H : OTells w n 77 #[v, u] (some c1)) : OTells w n 67 #[v, u] (some c1) := by
  unfold OTells at *
  have H := hideD H
  go_enter Try.func67, Try.ntmps67
  go_wp2_with fail
  refine H.out.mono ?_
  rintro e w' ⟨⟨B, z, l, rfl, hz⟩, hb⟩
  have HZ := hideD hz
  clear hz
  go_wp2_with fail
  exact bodyPost_ret (v := .tuple #[.pointer (some ⟨z, 0, none⟩), .int .i64 0]) (by simp [results, Try.results67, go_sem]) rfl ⟨⟨B, z, l, rfl, HZ.out⟩, hb⟩
def wdR (n : Nat) (lo up : List Int) (c : Row) : Row := fun k => if k / (n + 1) = k % (n + 1) then c k else wdV (k / (n + 1)) (cstN lo (k / (n + 1))) (cstN up (k % (n + 1))) (c k)
/-- What the widening of a zone makes, of the cells without the silent clocks. -/
def luO (n m : Nat) (lo up : List Int) (c1 : Row) : Option Row := if c1 0 < 1 then some c1 else zoneR n (drf n m (listOf (wdR n lo up c1) m))
theorem odd3 (x : Int) : Odd (.int .i32 x) := ⟨fun y h => (by cases h), fun a k c h => (by cases h)⟩
set_option maxHeartbeats 4000000 in
theorem wof_any (b bl bh n m : Nat) (v : Value) (c c1 : Row) (lo up : List Int) (w : World) (hn : n ≤ 8) (hm : m = (n + 1) * (n + 1)) (hz : ZoneAt w b n c) (hc : C32 c) (hv : IntsAt w v (silL lo up n)) (hby : ByAt w bl bh n lo up) (hvs : ∃ a k cc, v = .slice a k cc)
    (hc0 : ∀ i, i ≤ n → 0 ≤ cstN lo i ∧ cstN lo i ≤ 1048576 ∧ 0 ≤ cstN up i ∧ cstN up i ≤ 1048576) (hr : ∀ k, rightB (wdR n lo up c1 k) = true)
    (HF : ∀ w', Below w.heap.size w w' → OTells w' n 77 #[.pointer (some ⟨b, 0, none⟩), v] (some c1)) :
    OTells w n 49 #[.agg #[v, byF bl bh], .pointer (some ⟨b, 0, none⟩)] (luO n m lo up c1) := by
  have B0 := hideD (below_one w (.cells #[v, byF bl bh] 113))
  have HG := hideD (gone_tells _ _ n c1 _ (HF _ B0.out))
  have V0 : (w.alloc (.cells #[v, byF bl bh] 113)).cell? ⟨w.heap.size, 0, none⟩ = some v := by simp [go_sem]
  have V1 : (w.alloc (.cells #[v, byF bl bh] 113)).cell? ⟨w.heap.size, 1, none⟩ = some (byF bl bh) := by simp [go_sem]
  have BY0 := hideD (hby.past B0.out)
  have HE : Hid (∀ w z, ZoneAt w z n c1 → Calls Try.prog 6 #[.pointer (some ⟨z, 0, none⟩)] w fun e w' => e = .returned (.bool (decide (c1 0 < 1))) ∧ Below w.heap.size w w') := fun w z hz => emptyP_any z n c1 w hn hz
  have HDm : Hid (∀ w z, ZoneAt w z n c1 → Calls Try.prog 18 #[.pointer (some ⟨z, 0, none⟩)] w fun e w' => e = .returned (.int .i64 (n : Int)) ∧ w' = w) := fun w z hz => dimZ_any z n w hz.clocks
  have HCl : Hid (∀ w z, ZoneAt w z n c1 → Calls Try.prog 50 #[.pointer (some ⟨z, 0, none⟩)] w fun e w' => (∃ g cap, e = .returned (.slice (some ⟨g, 0, none⟩) m cap) ∧ w.heap.size ≤ g ∧ g < w'.heap.size ∧ Hid (∀ k, k < m → w'.cell? ⟨g, k, none⟩ = some (.int .i32 (c1 k))) ∧ Hid (∀ j, w'.frozen? ⟨g, j, none⟩ = false)) ∧ Below w.heap.size w w') := fun w z hz => by
    have := cells_free z n c1 w hz hn
    rw [← hm] at this
    exact this
  clear hz hc hv HF
  obtain ⟨a, k, cc, rfl⟩ := hvs
  have V1' := V1
  unfold byF at V1
  obtain ⟨o, hO⟩ : ∃ o, luO n m lo up c1 = o := ⟨_, rfl⟩
  rw [hO]
  have HO := hideD hO
  clear hO
  unfold OTells
  go_enter Try.func49, Try.ntmps49
  go_wp2_with fail
  unfold byF at *
  generalize w.alloc (.cells #[.slice a k cc, .func (.func 63) #[] #[.pointer (some ⟨bl, 0, none⟩), .pointer (some ⟨bh, 0, none⟩)]] 113) = w0 at *
  refine HG.out.mono ?_
  rintro e w1 ⟨⟨B, z, l, rfl, hz⟩, hb1⟩
  have Z1 := hideD hz
  have E1 := hideD (HE.out w1 z hz)
  have B1 := hideD (beyondD B0.out hb1)
  have V2 := hideD (kc _ _ hb1 V1)
  have BY1 := hideD (BY0.out.past hb1)
  clear HG V0 V1 V1' hb1 hz BY0
  by_cases ce : c1 0 < 1
  · rw [decide_eq_true ce] at E1
    have ho : Hid (o = some c1) := by show o = _; rw [← HO.out]; unfold luO; rw [if_pos ce]
    go_wp2_with fail
    refine E1.out.mono ?_
    rintro e w2 ⟨rfl, hb2⟩
    have Z2 := hideD (Z1.out.past hb2)
    have B2 := hideD (beyondD B1.out hb2)
    clear hb2 E1
    go_wp2_with fail
    exact bodyPost_ret (v := .tuple #[.pointer (some ⟨z, 0, none⟩), .int .i64 0]) (by simp [results, Try.results49, go_sem]) rfl ⟨⟨B, by rw [ho.out]; exact ⟨z, l, rfl, Z2.out⟩⟩, B2.out⟩
  · rw [decide_eq_false ce] at E1
    have ho : Hid (o = zoneR n (drf n m (listOf (wdR n lo up c1) m))) := by show o = _; rw [← HO.out]; unfold luO; rw [if_neg ce]
    go_wp2_with fail
    refine E1.out.mono ?_
    rintro e w2 ⟨rfl, hb2⟩
    have Z2 := hideD (Z1.out.past hb2)
    have B2 := hideD (beyondD B1.out hb2)
    have V3 := hideD (kc _ _ hb2 V2.out)
    have BY2 := hideD (BY1.out.past hb2)
    have D2 := hideD (HDm.out w2 z Z2.out)
    have C2 := hideD (HCl.out w2 z Z2.out)
    have sd : wrap64 ((n : Int) + 1) = ((n + 1 : Nat) : Int) := by unfold wrap64; omega
    clear hb2 E1 Z1 B1 V2 BY1
    go_wp2_with fail
    refine D2.out.mono ?_
    rintro e w3 ⟨rfl, rfl⟩
    clear D2
    go_wp2_with fail
    refine C2.out.mono ?_
    rintro e w4 ⟨⟨g, cap, rfl, hg, hgl, hrow, hfz⟩, hb4⟩
    have B4 := hideD (beyondD B2.out hb4)
    have Z4 := hideD (Z2.out.past hb4)
    have V4 := hideD (kc _ _ hb4 V3.out)
    have BY4 := hideD (BY2.out.past hb4)
    have m81 : m ≤ 81 := by rw [hm]; exact Nat.mul_le_mul (show n + 1 ≤ 9 by omega) (show n + 1 ≤ 9 by omega)
    have HQ : Hid (∀ k, k < m → k / (n + 1) ≤ n ∧ k % (n + 1) ≤ n) := fun k hk => ⟨by rw [hm] at hk; have := Nat.div_lt_of_lt_mul hk; omega, by have := Nat.mod_lt k (show 0 < n + 1 by omega); omega⟩
    have HT : Hid (∀ k : Nat, (k : Int) / ((n : Int) + 1) = ((k / (n + 1) : Nat) : Int) ∧ (k : Int) % ((n : Int) + 1) = ((k % (n + 1) : Nat) : Int)) := fun k => ⟨by rw [show (n : Int) + 1 = ((n + 1 : Nat) : Int) by omega, ← Int.natCast_ediv], by rw [show (n : Int) + 1 = ((n + 1 : Nat) : Int) by omega, ← Int.natCast_emod]⟩
    have F0 : Hid (∀ k, k < m → w4.cell? ⟨g, k, none⟩ = some (.int .i32 (if k < 0 then wdR n lo up c1 k else c1 k))) := fun k hk => by rw [if_neg (by omega)]; exact hrow.out k hk
    have HCW : Hid (∀ wr (i j : Nat) (x : Int), ByAt wr bl bh n lo up → i ≤ n → j ≤ n → Calls Try.prog 63 #[.int .i64 i, .int .i64 j, .int .i32 x, .pointer (some ⟨bl, 0, none⟩), .pointer (some ⟨bh, 0, none⟩)] wr fun e w' => e = .returned (.int .i32 (wdV i (cstN lo i) (cstN up j) x)) ∧ w' = wr) := fun wr i j x hb hi hj => by
      obtain ⟨gl, cl, gh, ch, h1, h2, h3⟩ := hb
      exact wcell_any bl bh gl gh cl ch n i j x _ _ wr hn hi hj (hc0 i hi).1 (hc0 i hi).2.1 (hc0 j hj).2.2.1 (hc0 j hj).2.2.2 h1 h2 (h3 i hi).1 (h3 j hj).2
    have HOF : Hid (∀ wr, (∀ k, k < m → wr.cell? ⟨g, k, none⟩ = some (.int .i32 (wdR n lo up c1 k))) → Calls Try.prog 52 #[.int .i64 (n : Int), .slice (some ⟨g, 0, none⟩) m cap] wr fun e w' => ZoneOut w' wr.heap.size n e (zoneR n (drf n m (listOf (wdR n lo up c1) m))) ∧ Below wr.heap.size wr w') := fun wr hk => by
      have hlen := listOf_len (wdR n lo up c1) m
      have rb : ∀ k, -2147483648 ≤ wdR n lo up c1 k ∧ wdR n lo up c1 k ≤ 2147483647 := fun k => by
        have := hr k
        simp only [rightB, decide_eq_true_eq] at this
        omega
      have P := of_main n g 0 cap (listOf (wdR n lo up c1) m) wr hn (by rw [hlen, hm]) (fun j hj => by rw [hlen] at hj; rw [listOf_get _ _ _ hj, Nat.zero_add]; exact hk j hj) (fun j hj => by rw [listOf_get _ _ _ (by rw [hlen] at hj; exact hj)]; exact rb j)
      rw [hlen] at P
      refine P.mono fun e w' h => ?_
      have ha : allRight (listOf (wdR n lo up c1) m) m = true := allRight_of _ _ fun j hj => by rw [listOf_get _ _ _ hj]; exact hr j
      obtain ⟨h1, ⟨h2, -⟩ | ⟨-, h2⟩⟩ := h
      · rw [ha] at h2; cases h2
      · exact ⟨h2, h1⟩
    have WD : Hid (∀ K, K / (n + 1) = K % (n + 1) → wdR n lo up c1 K = c1 K) := fun K e => by unfold wdR; rw [if_pos e]
    have WN : Hid (∀ K, ¬ K / (n + 1) = K % (n + 1) → wdR n lo up c1 K = wdV (K / (n + 1)) (cstN lo (K / (n + 1))) (cstN up (K % (n + 1))) (c1 K)) := fun K e => by unfold wdR; rw [if_neg e]
    have B40 := hideD hb4
    generalize hW : wdR n lo up c1 = wd at *
    clear hW hrow hb4 B4 Z4 V4 BY4 HCl HE hr hc0 hby C2 sd
    have m1 : (m : Int) ≤ 81 := by omega
    have s0 : ¬ (n : Int) + 1 = 0 := by omega
    have s1 : ((n : Int) + 1 == 0) = false := by simpa using s0
    have hm' := hideD hm
    clear hm
    go_wp2_with fail
    go_loopw [36] (fun s wr => ∃ (K : Nat), K ≤ m ∧ s = .int .i64 K ∧ Hid (∀ k, k < m → wr.cell? ⟨g, k, none⟩ = some (.int .i32 (if k < K then wd k else c1 k))) ∧ Hid (∀ j, wr.frozen? ⟨g, j, none⟩ = false) ∧ Hid (Below w3.heap.size w3 wr)) (fun s _ => m - (intOf s).toNat)
    case atStart => exact ⟨0, by omega, rfl, F0, hfz, B40⟩
    case round =>
      obtain ⟨K, hK, rfl, F, Z, B⟩ := hrel
      clear F0 hfz B40
      by_cases ck : K < m
      · have f0 := F.out K ck
        rw [if_neg (by omega)] at f0
        have z0 := Z.out K
        obtain ⟨i1, j1⟩ := HQ.out K ck
        have TK : Hid (wrap64 ((K : Int) / ((n : Int) + 1)) = ((K / (n + 1) : Nat) : Int) ∧ (K : Int) % ((n : Int) + 1) = ((K % (n + 1) : Nat) : Int)) := ⟨by rw [(HT.out K).1]; have := i1; revert this; generalize K / (n + 1) = i; intro this; unfold wrap64; omega, (HT.out K).2⟩
        have v0 := kc _ _ B.out V3.out
        have by0 := BY2.out.past B.out
        have wd0 := hideD (WD.out K)
        have wn0 := hideD (WN.out K)
        have HCK := hideD (HCW.out wr (K / (n + 1)) (K % (n + 1)) (c1 K) by0 i1 j1)
        clear by0
        generalize K / (n + 1) = i at *
        generalize K % (n + 1) = j at *
        have k0 : (0 : Int) ≤ (K : Int) := by omega
        have k1 : (K : Int) < (m : Int) := by omega
        go_upto_region 9 with (fail)
        go_quiet (fail)
        rw [TK.out.1, TK.out.2]
        have F5 : Hid (∀ k, k < m → (wr.drewN nq).cell? ⟨g, k, none⟩ = some (.int .i32 (if k < K then wd k else c1 k))) := F
        have Z5 : Hid (∀ j, (wr.drewN nq).frozen? ⟨g, j, none⟩ = false) := Z
        have B5 := hideD (below_drewN B.out nq)
        have v5 : (wr.drewN nq).cell? ⟨w.heap.size, 1, none⟩ = _ := v0
        have f5 : (wr.drewN nq).cell? ⟨g, K, none⟩ = _ := f0
        have z5 : (wr.drewN nq).frozen? ⟨g, K, none⟩ = _ := z0
        have HCK' := hideD (HCW.out (wr.drewN nq) i j (c1 K) (BY2.out.past B5.out) i1 j1)
        generalize wr.drewN nq = w5 at *
        clear F Z B v0 f0 z0 HCK
        by_cases ij : i = j
        · subst ij
          have F' : Hid (∀ k, k < m → w5.cell? ⟨g, k, none⟩ = some (.int .i32 (if k < K + 1 then wd k else c1 k))) := fun k hk => by
            by_cases e : k = K
            · rw [if_pos (by omega), e, wd0.out rfl]; exact f5
            · have := F5.out k hk
              by_cases l : k < K
              · rw [if_pos l] at this; rw [if_pos (by omega)]; exact this
              · rw [if_neg l] at this; rw [if_neg (by omega)]; exact this
          clear F5 wn0 HCK'
          go_wp2_with fail
          go_roundw
          case rel => exact ⟨K + 1, by omega, by go_num, F', Z5, B5⟩
          case measure => simp [intOf]; omega
        · have ij' : ¬ (i : Int) = (j : Int) := by omega
          have ij2 : ((i : Int) == (j : Int)) = false := by simpa using ij'
          have ij3 : ((i : Int) != (j : Int)) = true := by simpa using ij'
          have wn1 := hideD (wn0.out ij)
          have F' : Hid (∀ k, k < m → (w5.setCell ⟨g, K, none⟩ (.int .i32 (wd K))).cell? ⟨g, k, none⟩ = some (.int .i32 (if k < K + 1 then wd k else c1 k))) := fun k hk => by
            by_cases e : k = K
            · subst e; rw [if_pos (by omega)]; exact World.cell?_setCell_same _ _ _ f5
            · rw [World.cell?_setCell_other _ _ _ _ (by intro h; injection h; omega)]
              have := F5.out k hk
              by_cases l : k < K
              · rw [if_pos l] at this; rw [if_pos (by omega)]; exact this
              · rw [if_neg l] at this; rw [if_neg (by omega)]; exact this
          have Z' : Hid (∀ j, (w5.setCell ⟨g, K, none⟩ (.int .i32 (wd K))).frozen? ⟨g, j, none⟩ = false) := fun j => by rw [World.frozen?_setCell]; exact Z5.out j
          have B' := hideD (B5.out.setCell (p := ⟨g, K, none⟩) hg (.int .i32 (wd K)))
          rw [← wn1.out] at HCK'
          generalize wd K = y at *
          clear F5 Z5 B5 wn0 wn1 wd0
          go_wp2_with fail
          refine HCK'.out.mono ?_
          rintro e w6 ⟨rfl, rfl⟩
          clear HCK'
          go_wp2_with fail
          exact ⟨⟨K + 1, by omega, by go_num, F', Z', B'⟩, by simp [intOf]; omega⟩
      · have eK : K = m := by omega
        subst eK
        have HD9 := hideD (HDm.out wr z (Z2.out.past B.out))
        have F' : Hid (∀ k, k < K → wr.cell? ⟨g, k, none⟩ = some (.int .i32 (wd k))) := fun k hk => by
          have := F.out k hk
          rw [if_pos hk] at this
          exact this
        have HO9 := hideD (HOF.out wr F'.out)
        have B9 := hideD (beyondD B2.out B.out)
        clear F F' Z B HOF HCW
        go_wp2_with fail
        refine HD9.out.mono ?_
        rintro e w6 ⟨rfl, rfl⟩
        clear HD9
        go_wp2_with fail
        refine HO9.out.mono ?_
        rintro e w7 ⟨hO, hb7⟩
        have B10 := hideD (beyondD B9.out hb7)
        have ho' := ho.out
        rw [← ho'] at hO
        clear HO9 hb7 ho ho'
        cases o with
        | none =>
          obtain rfl : e = errOf 10 := hO
          go_wp2_with fail
          exact bodyPost_ret (v := .tuple #[.pointer none, .int .i64 10]) (by simp [results, Try.results49, go_sem]) rfl ⟨⟨0, rfl⟩, B10.out⟩
        | some d' =>
          obtain ⟨z', l', rfl, hz'⟩ := hO
          have HZ := hideD hz'
          clear hz'
          go_wp2_with fail
          exact bodyPost_ret (v := .tuple #[.pointer (some ⟨z', 0, none⟩), .int .i64 0]) (by simp [results, Try.results49, go_sem]) rfl ⟨⟨_, z', l', rfl, HZ.out⟩, B10.out⟩
end Go.Proofs.Ytohkbjkfpnhggaa
